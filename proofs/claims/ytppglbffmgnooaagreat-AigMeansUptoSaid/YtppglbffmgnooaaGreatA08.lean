/- Joined texts: AgEdge, AgOrXor, AgResP. -/
import Derived.Test.YtppglbffmgnooaaGreatAgCopy
import Derived.Test.YtppglbffmgnooaaGreatAgDel
/- (*Maker).whole, edge where there is room; And. -/
namespace Go.Proofs.YtppglbffmgnooaaGreat
open Go.RowKit Go.Maps
set_option linter.unusedVariables false
set_option linter.unusedSimpArgs false

theorem mkE_room {w : World} {B pm : Nat} {I : List Int} {s : Mq} {vi : Value} {bf sl : Nat} (h : MkE w B pm I s vi bf sl) : ∃ va, w.cell? ⟨pm, 2, none⟩ = some va ∧ OwnP w B va s.1 ∧ s.1.length ≤ 200000 := by
  obtain ⟨va, n, h⟩ := h
  obtain ⟨_, _, h2, _, _⟩ := h.cell
  have := h.ok.room
  exact ⟨va, h2, h.row, by omega⟩
set_option maxRecDepth 100000 in
set_option maxHeartbeats 1600000 in
theorem whole_ok {w : World} {B pm : Nat} {I : List Int} {s : Mq} {vi : Value} {bf sl : Nat} (H : MkE w B pm I s vi bf sl) (g : Nat) (f0 cb : Array Value) (l : List Int) (s' : Mq) (hf : s'.2 = false)
    (eg : ∀ args X, (callFunc g args).run Tryz.prog X = .ok (.enter g args) X)
    (HW : Calls Tryz.prog g (f0 ++ #[] ++ cb) w fun e w' => ∃ v, e = .returned v ∧ Own w' w.heap.size v l ∧ MkE w' B pm I s' vi bf sl ∧ KpM B pm bf w w') :
    Calls Tryz.prog 170 #[.pointer (some ⟨pm, 0, none⟩), .func (.func g) f0 cb] w fun e w' => ∃ v, e = .returned (.tuple #[v, .int .i64 0]) ∧ Own w' w.heap.size v l ∧ MkE w' B pm I s' vi bf sl ∧ KpM B pm bf w w' := by
  obtain ⟨va, c2, hr, hrl⟩ := mkE_room H
  obtain ⟨aa, ac, rfl⟩ := hr.shape
  have HWW := Lib.hid HW
  clear HW H hr
  generalize s.1.length = n at *
  go_enter Tryz.func170, Tryz.ntmps170
  go_upto_region 2 with fail
  go_wp2_with fail
  refine HWW.out.mono ?_
  rintro e w1 ⟨v, rfl, hv, hm, hk⟩
  obtain ⟨_, _, c4⟩ := hm.cell
  rw [hf] at c4
  have HV := Lib.hid hv
  have HM := Lib.hid hm
  have HK := Lib.hid hk
  obtain ⟨xa, xc, rfl⟩ := own_shC hv
  clear hv hm hk
  go_wp2
  go_ret2
  exact ⟨_, rfl, HV.out, HM.out, HK.out⟩
theorem edge1_enters (args : Array Value) (w : World) : (callFunc 178 args).run Tryz.prog w = .ok (.enter 178 args) w := enters_of Tryz.func178 (by kernel_rfl) rfl args w
set_option maxRecDepth 100000 in
theorem edge1_any {w : World} (b4 g : Nat) (f0 cb : Array Value) (x : Int) (Q : World → Prop) (c : w.cell? ⟨b4, 0, none⟩ = some (.func (.func g) f0 cb))
    (eg : ∀ args X, (callFunc g args).run Tryz.prog X = .ok (.enter g args) X)
    (HW : Calls Tryz.prog g (f0 ++ #[] ++ cb) w fun e w' => e = .returned (.int .i64 x) ∧ Q w') :
    Calls Tryz.prog 178 #[.pointer (some ⟨b4, 0, none⟩)] w fun e w' => ∃ w1, Q w1 ∧ w' = w1.alloc (.cells #[.int .i64 x] 3) ∧ e = .returned (.slice (some ⟨w1.heap.size, 0, none⟩) 1 1) := by
  have HWW := Lib.hid HW
  clear HW
  go_enter Tryz.func178, Tryz.ntmps178
  go_wp2_with fail
  refine HWW.out.mono ?_
  rintro e w1 ⟨rfl, hq⟩
  have HQ := Lib.hid hq
  clear hq
  go_wp2
  go_ret
  exact ⟨w1, HQ.out, rfl, rfl⟩
theorem MkE.pairs {w : World} {B pm : Nat} {I : List Int} {s : Mq} {vi : Value} {bf sl : Nat} (h : MkE w B pm I s vi bf sl) : ∃ va, w.cell? ⟨pm, 2, none⟩ = some va ∧ IsPairs w va s.1 := by
  obtain ⟨va, n, h⟩ := h
  obtain ⟨_, _, h2, _, _⟩ := h.cell
  have := h.ok.room
  exact ⟨va, h2, h.row.pairs (by omega) h.inp⟩
theorem made_e {w : World} {B pm : Nat} {I : List Int} {s : Mq} {vi : Value} {bf sl : Nat} (h : MkE w B pm I s vi bf sl) :
    Calls Tryz.prog 118 #[.pointer (some ⟨pm, 0, none⟩)] w fun r w' => r = .returned (.bool true) ∧ w = w' := by
  obtain ⟨va, n, h⟩ := h
  exact made_any w B pm I s vi va bf n sl h
theorem graph_e {w : World} {B pm : Nat} {I : List Int} {s : Mq} {vi : Value} {bf sl : Nat} (h : MkE w B pm I s vi bf sl) (hB : B ≤ w.heap.size) :
    Calls Tryz.prog 97 #[.pointer (some ⟨pm, 0, none⟩)] w fun r w' => ∃ va, r = .returned (.agg #[vi, va]) ∧ w.cell? ⟨pm, 2, none⟩ = some va ∧ Below w.heap.size w w' ∧ IsPairs w' va s.1 ∧ IsInts w' vi I := by
  have h2 := h.ins
  obtain ⟨va, n, h⟩ := h
  obtain ⟨_, _, c2, _, _⟩ := h.cell
  have := h.ok.room
  have hp := h.row.pairs (by omega) h.inp
  exact (graph_any w B pm I s vi va bf n sl h hB).mono fun r w' e => ⟨va, e.1, c2, e.2, hp.below e.2 (Nat.le_refl _), h2.1.below e.2 (Nat.le_refl _)⟩
theorem own1_new (w : World) (x : Int) : Own (w.alloc (.cells #[.int .i64 x] 3)) w.heap.size (.slice (some ⟨w.heap.size, 0, none⟩) 1 1) [x] := (own_new (w := w) (l := [x])).elim (fun h => h) (fun h => by simp at h)
theorem own_at0 {w : World} {B : Nat} {v : Value} {x : Int} (h : Own w B v [x]) : ∃ g c, v = .slice (some ⟨g, 0, none⟩) 1 c ∧ w.cell? ⟨g, 0, none⟩ = some (.int .i64 x) := by
  have h0 := h
  rcases h.2 with ⟨_, h2⟩ | ⟨g, cap, cur, rfl, _⟩
  · simp at h2
  · exact ⟨g, cap, rfl, Own.cell (n := 1) h0 0 (by simp)⟩
set_option maxRecDepth 100000 in
set_option maxHeartbeats 3200000 in
theorem edge_ok {w : World} {B pm : Nat} {I : List Int} {s : Mq} {vi : Value} {bf sl : Nat} (H : MkE w B pm I s vi bf sl) (hB : B ≤ w.heap.size) (g : Nat) (f0 cb : Array Value) (r : Int × Mq) (hf : r.2.2 = false) (vo : Value) (o : List Int)
    (HO : IsInts w vo o) (ho : edgesB o (1 + I.length + s.1.length) = true)
    (eg : ∀ args X, (callFunc g args).run Tryz.prog X = .ok (.enter g args) X)
    (HW : ∀ X, Below w.heap.size w X → Calls Tryz.prog g (f0 ++ #[] ++ cb) X fun e w' => e = .returned (.int .i64 r.1) ∧ MkE w' B pm I r.2 vi bf sl ∧ KpM B pm bf X w') :
    Calls Tryz.prog 137 #[.pointer (some ⟨pm, 0, none⟩), .func (.func g) f0 cb, vo] w fun e w' => e = .returned (.tuple #[.int .i64 r.1, .int .i64 0]) ∧ MkE w' B pm I r.2 vi bf sl ∧ KpM B pm bf w w' := by
  have hba := below_alloc1 w (.cells #[.func (.func g) f0 cb] 175)
  have c0 : (w.alloc (.cells #[.func (.func g) f0 cb] 175)).cell? ⟨w.heap.size, 0, none⟩ = some (.func (.func g) f0 cb) := cell_fresh rfl
  have hsz : (w.alloc (.cells #[.func (.func g) f0 cb] 175)).heap.size = w.heap.size + 1 := by simp
  have HMW := Lib.hid (H.below hba (Nat.le_refl _))
  have HOW := Lib.hid (HO.below hba (Nat.le_refl _))
  have HIL := Lib.hid H.ins.2
  have hrl := H.ok.room
  have HWW := Lib.hid HW
  obtain ⟨oa, oc, rfl⟩ := HO.shape
  clear HW H HO
  go_enter Tryz.func137, Tryz.ntmps137
  go_upto_region 1 with fail
  generalize World.alloc w _ = W at *
  have HBA := Lib.hid hba
  have HC0 := Lib.hid c0
  have HSZ := Lib.hid hsz
  have HMD := Lib.hid (made_e HMW.out)
  have HBW : Hid (B ≤ W.heap.size) := Nat.le_trans hB hba.size
  have HGR := Lib.hid (graph_e HMW.out HBW.out)
  have HRL := Lib.hid hrl
  have HAE : Hid (∀ X, Below W.heap.size W X → Calls Tryz.prog 144 #[.slice oa o.length oc, .int .i64 ((1 + I.length + s.1.length : Nat) : Int)] X fun e w' => e = .returned (.bool true) ∧ Below X.heap.size X w') := fun X hX =>
    (areEdges_any _ o _ X (HOW.out.below hX (Nat.le_refl _)) (by have := HIL.out; omega)).mono fun e w' h => ⟨by rw [h.1, ho], h.2⟩
  clear hba c0 hsz ho hrl
  go_upto_region 5 with (first
    | (go_at_call 144; go_loud (refine (HAE.out w2 (HB1.out.trans (HB2.out.mono HB1.out.size))).mono ?_; rintro e w3 ⟨rfl, hb3⟩; have HB3 := Lib.hid hb3; clear hb3))
    | (go_at_call 66; refine (nodes_any _ _ I s.1 w1 HI1.out HP1.out HIL.out (by have := HRL.out; omega)).mono ?_; rintro e w2 ⟨rfl, hb2⟩; have HB2 := Lib.hid hb2; clear hb2)
    | (go_at_call 97; refine HGR.out.mono ?_; rintro e w1 ⟨va, rfl, _, hb1, hp1, hi1⟩; have HB1 := Lib.hid hb1; have HP1 := Lib.hid hp1; have HI1 := Lib.hid hi1; clear hb1 hp1 hi1)
    | (go_at_call 118; refine HMD.out.mono ?_; rintro e w9 ⟨rfl, rfl⟩))
  have HB := Lib.hid (HB1.out.trans ((HB2.out.trans (HB3.out.mono HB2.out.size)).mono HB1.out.size))
  have HM3 := Lib.hid (HMW.out.below HB.out (Nat.le_refl _))
  have hc3 := (HB.out.cell (World.block_lt_of_cell? W _ HC0.out)).trans HC0.out
  have HE1 := Lib.hid (edge1_any (w := w3) w.heap.size g f0 cb r.1 _ hc3 eg (HWW.out w3 (HBA.out.trans (HB.out.mono HBA.out.size))))
  have HWH : Hid (Calls Tryz.prog 170 #[.pointer (some ⟨pm, 0, none⟩), .func (.func 178) #[] #[.pointer (some ⟨w.heap.size, 0, none⟩)]] w3 fun e w' => ∃ v, e = .returned (.tuple #[v, .int .i64 0]) ∧ Own w' w3.heap.size v [r.1] ∧ MkE w' B pm I r.2 vi bf sl ∧ KpM B pm bf w3 w') :=
    whole_ok HM3.out 178 #[] #[.pointer (some ⟨w.heap.size, 0, none⟩)] [r.1] r.2 hf edge1_enters (HE1.out.mono fun e w' h => by
      obtain ⟨w1, ⟨h1, h2⟩, rfl, rfl⟩ := h
      have hb := below_alloc1 w1 (.cells #[.int .i64 r.1] 3)
      have hB1 : B ≤ w1.heap.size := Nat.le_trans HBW.out (Nat.le_trans HB.out.size h2.below.size)
      exact ⟨_, rfl, (own1_new w1 r.1).mono h2.below.size, h1.below hb (Nat.le_refl _), h2.trans (KpM.of_below hb hB1)⟩)
  have HK3 : Hid (KpM B pm bf w w3) := KpM.of_below (HBA.out.trans (HB.out.mono HBA.out.size)) hB
  clear hc3 HE1 HWW HB1 HB2 HB3
  go_wp2_with (go_at_call 170; refine HWH.out.mono ?_; rintro e w4 ⟨v, rfl, hv, hm, hk⟩; obtain ⟨gx, xc, rfl, hx0⟩ := own_at0 hv; have HM4 := Lib.hid hm; have HK4 := Lib.hid hk; clear hv hm hk)
  go_ret2
  exact ⟨rfl, HM4.out, HK3.out.trans HK4.out⟩
theorem and1_enters (args : Array Value) (w : World) : (callFunc 138 args).run Tryz.prog w = .ok (.enter 138 args) w := enters_of Tryz.func138 (by kernel_rfl) rfl args w
set_option maxRecDepth 100000 in
theorem and1_any {w : World} {B pm : Nat} {I : List Int} {s : Mq} {vi : Value} {bf sl : Nat} {a b : Int} (b3 b4 b5 : Nat) (H : MkE w B pm I s vi bf sl) (hB : B ≤ w.heap.size)
    (ha : isE a (1 + I.length + s.1.length) = true) (hb : isE b (1 + I.length + s.1.length) = true)
    (c3 : w.cell? ⟨b3, 0, none⟩ = some (.pointer (some ⟨pm, 0, none⟩))) (c4 : w.cell? ⟨b4, 0, none⟩ = some (.int .i64 a)) (c5 : w.cell? ⟨b5, 0, none⟩ = some (.int .i64 b)) :
    Calls Tryz.prog 138 #[.pointer (some ⟨b3, 0, none⟩), .pointer (some ⟨b4, 0, none⟩), .pointer (some ⟨b5, 0, none⟩)] w (AndPost w B pm I vi bf sl (conjA (1 + I.length) s a b)) := by
  have HA := Lib.hid (and_e H hB ha hb)
  generalize conjA (1 + I.length) s a b = r at *
  obtain ⟨r1, r2⟩ := r
  clear ha hb H
  unfold AndPost at HA ⊢
  go_enter Tryz.func138, Tryz.ntmps138
  go_wp2_with (go_at_call 139; refine HA.out.mono ?_; rintro e w1 ⟨rfl, hm1, hk1⟩; have HM1 := Lib.hid hm1; have HK1 := Lib.hid hk1; clear hm1 hk1)
  go_ret
  exact ⟨rfl, HM1.out, HK1.out⟩
theorem ints_two {w : World} {a b : Int} (ha : -9223372036854775808 ≤ a ∧ a ≤ 9223372036854775807) (hb : -9223372036854775808 ≤ b ∧ b ≤ 9223372036854775807) : IsInts (w.alloc (.cells #[.int .i64 a, .int .i64 b] 3)) (.slice (some ⟨w.heap.size, 0, none⟩) 2 2) [a, b] :=
  (own_new2 w a b).ints (by simp) (fun x hx => by simp only [List.mem_cons, List.not_mem_nil, or_false] at hx; rcases hx with rfl | rfl <;> assumption)
set_option maxRecDepth 100000 in
set_option maxHeartbeats 3200000 in
theorem And_ok {w : World} {B pm : Nat} {I : List Int} {s : Mq} {vi : Value} {bf sl : Nat} {a b : Int} (H : MkE w B pm I s vi bf sl) (hB : B ≤ w.heap.size)
    (ha : isE a (1 + I.length + s.1.length) = true) (hb : isE b (1 + I.length + s.1.length) = true) (hf : (conjA (1 + I.length) s a b).2.2 = false) :
    Calls Tryz.prog 57 #[.pointer (some ⟨pm, 0, none⟩), .int .i64 a, .int .i64 b] w fun e w' => e = .returned (.tuple #[.int .i64 (conjA (1 + I.length) s a b).1, .int .i64 0]) ∧ MkE w' B pm I (conjA (1 + I.length) s a b).2 vi bf sl ∧ KpM B pm bf w w' := by
  have ba := edge_bd H.ok ha
  have bb := edge_bd H.ok hb
  have hbl : Below w.heap.size w (((w.alloc (.cells #[.pointer (some ⟨pm, 0, none⟩)] 69)).alloc (.cells #[.int .i64 a] 3)).alloc (.cells #[.int .i64 b] 3)) := (((Below.refl _ _).alloc (Nat.le_refl _) _).alloc (by simp) _).alloc (by simp; omega) _
  have c3 : (((w.alloc (.cells #[.pointer (some ⟨pm, 0, none⟩)] 69)).alloc (.cells #[.int .i64 a] 3)).alloc (.cells #[.int .i64 b] 3)).cell? ⟨w.heap.size, 0, none⟩ = some (.pointer (some ⟨pm, 0, none⟩)) := cell_old (cell_old (cell_fresh rfl))
  have c4 : (((w.alloc (.cells #[.pointer (some ⟨pm, 0, none⟩)] 69)).alloc (.cells #[.int .i64 a] 3)).alloc (.cells #[.int .i64 b] 3)).cell? ⟨w.heap.size + 1, 0, none⟩ = some (.int .i64 a) := cell_old (cell_fresh2 rfl)
  have c5 : (((w.alloc (.cells #[.pointer (some ⟨pm, 0, none⟩)] 69)).alloc (.cells #[.int .i64 a] 3)).alloc (.cells #[.int .i64 b] 3)).cell? ⟨w.heap.size + 1 + 1, 0, none⟩ = some (.int .i64 b) := by
    have h := cell_fresh2 (w := w.alloc (.cells #[.pointer (some ⟨pm, 0, none⟩)] 69)) (o := .cells #[.int .i64 a] 3) (c := #[.int .i64 b]) (T := 3) (i := 0) rfl
    simpa using h
  have HMW := Lib.hid (H.below hbl (Nat.le_refl _))
  have HH := Lib.hid H
  have hra := H.ok.room
  clear H
  go_enter Tryz.func57, Tryz.ntmps57
  go_upto_region 1 with fail
  generalize ((w.alloc _).alloc _).alloc _ = W at *
  have HBL := Lib.hid hbl
  have C3 := Lib.hid c3
  have C4 := Lib.hid c4
  have C5 := Lib.hid c5
  have HBW : Hid (B ≤ W.heap.size) := Nat.le_trans hB hbl.size
  have hb2 := below_alloc1 W (.cells #[.int .i64 a, .int .i64 b] 3)
  have HB2 := Lib.hid hb2
  have HED : Hid (Calls Tryz.prog 137 #[.pointer (some ⟨pm, 0, none⟩), .func (.func 138) #[] #[.pointer (some ⟨w.heap.size, 0, none⟩), .pointer (some ⟨w.heap.size + 1, 0, none⟩), .pointer (some ⟨w.heap.size + 1 + 1, 0, none⟩)], .slice (some ⟨W.heap.size, 0, none⟩) 2 2] (W.alloc (.cells #[.int .i64 a, .int .i64 b] 3)) fun e w' => e = .returned (.tuple #[.int .i64 (conjA (1 + I.length) s a b).1, .int .i64 0]) ∧ MkE w' B pm I (conjA (1 + I.length) s a b).2 vi bf sl ∧ KpM B pm bf (W.alloc (.cells #[.int .i64 a, .int .i64 b] 3)) w') := by
    refine edge_ok (HMW.out.below hb2 (Nat.le_refl _)) (Nat.le_trans HBW.out hb2.size) 138 #[] _ (conjA (1 + I.length) s a b) hf _ [a, b] (ints_two (by omega) (by omega)) ?_ and1_enters (fun X hX => ?_)
    · rw [edgesB_true]
      intro e he
      simp only [List.mem_cons, List.not_mem_nil, or_false] at he
      rcases he with rfl | rfl
      · exact isE_true.1 ha
      · exact isE_true.1 hb
    · have hWX : Below W.heap.size W X := hb2.trans (hX.mono hb2.size)
      refine (and1_any w.heap.size (w.heap.size + 1) (w.heap.size + 1 + 1) (HMW.out.below hWX (Nat.le_refl _)) (Nat.le_trans HBW.out hWX.size) ha hb ?_ ?_ ?_).mono (fun e w' h => h)
      · exact (hWX.cell (World.block_lt_of_cell? W _ C3.out)).trans C3.out
      · exact (hWX.cell (World.block_lt_of_cell? W _ C4.out)).trans C4.out
      · exact (hWX.cell (World.block_lt_of_cell? W _ C5.out)).trans C5.out
  clear hbl hb2 ha hb hra hf
  generalize hr1 : (conjA (1 + I.length) s a b).1 = r1 at HED
  generalize hr2 : (conjA (1 + I.length) s a b).2 = r2 at HED
  have HR1 := Lib.hid hr1
  have HR2 := Lib.hid hr2
  clear hr1 hr2
  go_wp2_with (go_at_call 137; refine HED.out.mono ?_; rintro e w4 ⟨rfl, hm, hk⟩; have HM4 := Lib.hid hm; have HK4 := Lib.hid hk; clear hm hk)
  go_ret2
  exact ⟨by rw [HR1.out]; rfl, by rw [HR2.out]; exact HM4.out, (KpM.of_below (HBL.out.trans (HB2.out.mono HBL.out.size)) hB).trans HK4.out⟩
end Go.Proofs.YtppglbffmgnooaaGreat

/- (*Maker).Or, Xor where there is room. Written by gen-orxor.py from And's text. -/
namespace Go.Proofs.YtppglbffmgnooaaGreat
open Go.RowKit Go.Maps
set_option linter.unusedVariables false
set_option linter.unusedSimpArgs false

theorem or1_enters (args : Array Value) (w : World) : (callFunc 140 args).run Tryz.prog w = .ok (.enter 140 args) w := enters_of Tryz.func140 (by kernel_rfl) rfl args w
set_option maxRecDepth 100000 in
theorem or1_any {w : World} {B pm : Nat} {I : List Int} {s : Mq} {vi : Value} {bf sl : Nat} {a b : Int} (b3 b4 b5 : Nat) (H : MkE w B pm I s vi bf sl) (hB : B ≤ w.heap.size)
    (ha : isE a (1 + I.length + s.1.length) = true) (hb : isE b (1 + I.length + s.1.length) = true)
    (c3 : w.cell? ⟨b3, 0, none⟩ = some (.pointer (some ⟨pm, 0, none⟩))) (c4 : w.cell? ⟨b4, 0, none⟩ = some (.int .i64 a)) (c5 : w.cell? ⟨b5, 0, none⟩ = some (.int .i64 b)) :
    Calls Tryz.prog 140 #[.pointer (some ⟨b3, 0, none⟩), .pointer (some ⟨b4, 0, none⟩), .pointer (some ⟨b5, 0, none⟩)] w (AndPost w B pm I vi bf sl (disjA (1 + I.length) s a b)) := by
  have HA := Lib.hid (or_e H hB ha hb)
  generalize disjA (1 + I.length) s a b = r at *
  obtain ⟨r1, r2⟩ := r
  clear ha hb H
  unfold AndPost at HA ⊢
  go_enter Tryz.func140, Tryz.ntmps140
  go_wp2_with (go_at_call 141; refine HA.out.mono ?_; rintro e w1 ⟨rfl, hm1, hk1⟩; have HM1 := Lib.hid hm1; have HK1 := Lib.hid hk1; clear hm1 hk1)
  go_ret
  exact ⟨rfl, HM1.out, HK1.out⟩
set_option maxRecDepth 100000 in
set_option maxHeartbeats 3200000 in
theorem Or_ok {w : World} {B pm : Nat} {I : List Int} {s : Mq} {vi : Value} {bf sl : Nat} {a b : Int} (H : MkE w B pm I s vi bf sl) (hB : B ≤ w.heap.size)
    (ha : isE a (1 + I.length + s.1.length) = true) (hb : isE b (1 + I.length + s.1.length) = true) (hf : (disjA (1 + I.length) s a b).2.2 = false) :
    Calls Tryz.prog 60 #[.pointer (some ⟨pm, 0, none⟩), .int .i64 a, .int .i64 b] w fun e w' => e = .returned (.tuple #[.int .i64 (disjA (1 + I.length) s a b).1, .int .i64 0]) ∧ MkE w' B pm I (disjA (1 + I.length) s a b).2 vi bf sl ∧ KpM B pm bf w w' := by
  have ba := edge_bd H.ok ha
  have bb := edge_bd H.ok hb
  have hbl : Below w.heap.size w (((w.alloc (.cells #[.pointer (some ⟨pm, 0, none⟩)] 69)).alloc (.cells #[.int .i64 a] 3)).alloc (.cells #[.int .i64 b] 3)) := (((Below.refl _ _).alloc (Nat.le_refl _) _).alloc (by simp) _).alloc (by simp; omega) _
  have c3 : (((w.alloc (.cells #[.pointer (some ⟨pm, 0, none⟩)] 69)).alloc (.cells #[.int .i64 a] 3)).alloc (.cells #[.int .i64 b] 3)).cell? ⟨w.heap.size, 0, none⟩ = some (.pointer (some ⟨pm, 0, none⟩)) := cell_old (cell_old (cell_fresh rfl))
  have c4 : (((w.alloc (.cells #[.pointer (some ⟨pm, 0, none⟩)] 69)).alloc (.cells #[.int .i64 a] 3)).alloc (.cells #[.int .i64 b] 3)).cell? ⟨w.heap.size + 1, 0, none⟩ = some (.int .i64 a) := cell_old (cell_fresh2 rfl)
  have c5 : (((w.alloc (.cells #[.pointer (some ⟨pm, 0, none⟩)] 69)).alloc (.cells #[.int .i64 a] 3)).alloc (.cells #[.int .i64 b] 3)).cell? ⟨w.heap.size + 1 + 1, 0, none⟩ = some (.int .i64 b) := by
    have h := cell_fresh2 (w := w.alloc (.cells #[.pointer (some ⟨pm, 0, none⟩)] 69)) (o := .cells #[.int .i64 a] 3) (c := #[.int .i64 b]) (T := 3) (i := 0) rfl
    simpa using h
  have HMW := Lib.hid (H.below hbl (Nat.le_refl _))
  have HH := Lib.hid H
  have hra := H.ok.room
  clear H
  go_enter Tryz.func60, Tryz.ntmps60
  go_upto_region 1 with fail
  generalize ((w.alloc _).alloc _).alloc _ = W at *
  have HBL := Lib.hid hbl
  have C3 := Lib.hid c3
  have C4 := Lib.hid c4
  have C5 := Lib.hid c5
  have HBW : Hid (B ≤ W.heap.size) := Nat.le_trans hB hbl.size
  have hb2 := below_alloc1 W (.cells #[.int .i64 a, .int .i64 b] 3)
  have HB2 := Lib.hid hb2
  have HED : Hid (Calls Tryz.prog 137 #[.pointer (some ⟨pm, 0, none⟩), .func (.func 140) #[] #[.pointer (some ⟨w.heap.size, 0, none⟩), .pointer (some ⟨w.heap.size + 1, 0, none⟩), .pointer (some ⟨w.heap.size + 1 + 1, 0, none⟩)], .slice (some ⟨W.heap.size, 0, none⟩) 2 2] (W.alloc (.cells #[.int .i64 a, .int .i64 b] 3)) fun e w' => e = .returned (.tuple #[.int .i64 (disjA (1 + I.length) s a b).1, .int .i64 0]) ∧ MkE w' B pm I (disjA (1 + I.length) s a b).2 vi bf sl ∧ KpM B pm bf (W.alloc (.cells #[.int .i64 a, .int .i64 b] 3)) w') := by
    refine edge_ok (HMW.out.below hb2 (Nat.le_refl _)) (Nat.le_trans HBW.out hb2.size) 140 #[] _ (disjA (1 + I.length) s a b) hf _ [a, b] (ints_two (by omega) (by omega)) ?_ or1_enters (fun X hX => ?_)
    · rw [edgesB_true]
      intro e he
      simp only [List.mem_cons, List.not_mem_nil, or_false] at he
      rcases he with rfl | rfl
      · exact isE_true.1 ha
      · exact isE_true.1 hb
    · have hWX : Below W.heap.size W X := hb2.trans (hX.mono hb2.size)
      refine (or1_any w.heap.size (w.heap.size + 1) (w.heap.size + 1 + 1) (HMW.out.below hWX (Nat.le_refl _)) (Nat.le_trans HBW.out hWX.size) ha hb ?_ ?_ ?_).mono (fun e w' h => h)
      · exact (hWX.cell (World.block_lt_of_cell? W _ C3.out)).trans C3.out
      · exact (hWX.cell (World.block_lt_of_cell? W _ C4.out)).trans C4.out
      · exact (hWX.cell (World.block_lt_of_cell? W _ C5.out)).trans C5.out
  clear hbl hb2 ha hb hra hf
  generalize hr1 : (disjA (1 + I.length) s a b).1 = r1 at HED
  generalize hr2 : (disjA (1 + I.length) s a b).2 = r2 at HED
  have HR1 := Lib.hid hr1
  have HR2 := Lib.hid hr2
  clear hr1 hr2
  go_wp2_with (go_at_call 137; refine HED.out.mono ?_; rintro e w4 ⟨rfl, hm, hk⟩; have HM4 := Lib.hid hm; have HK4 := Lib.hid hk; clear hm hk)
  go_ret2
  exact ⟨by rw [HR1.out]; rfl, by rw [HR2.out]; exact HM4.out, (KpM.of_below (HBL.out.trans (HB2.out.mono HBL.out.size)) hB).trans HK4.out⟩
theorem xor1_enters (args : Array Value) (w : World) : (callFunc 142 args).run Tryz.prog w = .ok (.enter 142 args) w := enters_of Tryz.func142 (by kernel_rfl) rfl args w
set_option maxRecDepth 100000 in
theorem xor1_any {w : World} {B pm : Nat} {I : List Int} {s : Mq} {vi : Value} {bf sl : Nat} {a b : Int} (b3 b4 b5 : Nat) (H : MkE w B pm I s vi bf sl) (hB : B ≤ w.heap.size)
    (ha : isE a (1 + I.length + s.1.length) = true) (hb : isE b (1 + I.length + s.1.length) = true)
    (c3 : w.cell? ⟨b3, 0, none⟩ = some (.pointer (some ⟨pm, 0, none⟩))) (c4 : w.cell? ⟨b4, 0, none⟩ = some (.int .i64 a)) (c5 : w.cell? ⟨b5, 0, none⟩ = some (.int .i64 b)) :
    Calls Tryz.prog 142 #[.pointer (some ⟨b3, 0, none⟩), .pointer (some ⟨b4, 0, none⟩), .pointer (some ⟨b5, 0, none⟩)] w (AndPost w B pm I vi bf sl (exclA (1 + I.length) s a b)) := by
  have HA := Lib.hid (xor_e H hB ha hb)
  generalize exclA (1 + I.length) s a b = r at *
  obtain ⟨r1, r2⟩ := r
  clear ha hb H
  unfold AndPost at HA ⊢
  go_enter Tryz.func142, Tryz.ntmps142
  go_wp2_with (go_at_call 143; refine HA.out.mono ?_; rintro e w1 ⟨rfl, hm1, hk1⟩; have HM1 := Lib.hid hm1; have HK1 := Lib.hid hk1; clear hm1 hk1)
  go_ret
  exact ⟨rfl, HM1.out, HK1.out⟩
set_option maxRecDepth 100000 in
set_option maxHeartbeats 3200000 in
theorem Xor_ok {w : World} {B pm : Nat} {I : List Int} {s : Mq} {vi : Value} {bf sl : Nat} {a b : Int} (H : MkE w B pm I s vi bf sl) (hB : B ≤ w.heap.size)
    (ha : isE a (1 + I.length + s.1.length) = true) (hb : isE b (1 + I.length + s.1.length) = true) (hf : (exclA (1 + I.length) s a b).2.2 = false) :
    Calls Tryz.prog 61 #[.pointer (some ⟨pm, 0, none⟩), .int .i64 a, .int .i64 b] w fun e w' => e = .returned (.tuple #[.int .i64 (exclA (1 + I.length) s a b).1, .int .i64 0]) ∧ MkE w' B pm I (exclA (1 + I.length) s a b).2 vi bf sl ∧ KpM B pm bf w w' := by
  have ba := edge_bd H.ok ha
  have bb := edge_bd H.ok hb
  have hbl : Below w.heap.size w (((w.alloc (.cells #[.pointer (some ⟨pm, 0, none⟩)] 69)).alloc (.cells #[.int .i64 a] 3)).alloc (.cells #[.int .i64 b] 3)) := (((Below.refl _ _).alloc (Nat.le_refl _) _).alloc (by simp) _).alloc (by simp; omega) _
  have c3 : (((w.alloc (.cells #[.pointer (some ⟨pm, 0, none⟩)] 69)).alloc (.cells #[.int .i64 a] 3)).alloc (.cells #[.int .i64 b] 3)).cell? ⟨w.heap.size, 0, none⟩ = some (.pointer (some ⟨pm, 0, none⟩)) := cell_old (cell_old (cell_fresh rfl))
  have c4 : (((w.alloc (.cells #[.pointer (some ⟨pm, 0, none⟩)] 69)).alloc (.cells #[.int .i64 a] 3)).alloc (.cells #[.int .i64 b] 3)).cell? ⟨w.heap.size + 1, 0, none⟩ = some (.int .i64 a) := cell_old (cell_fresh2 rfl)
  have c5 : (((w.alloc (.cells #[.pointer (some ⟨pm, 0, none⟩)] 69)).alloc (.cells #[.int .i64 a] 3)).alloc (.cells #[.int .i64 b] 3)).cell? ⟨w.heap.size + 1 + 1, 0, none⟩ = some (.int .i64 b) := by
    have h := cell_fresh2 (w := w.alloc (.cells #[.pointer (some ⟨pm, 0, none⟩)] 69)) (o := .cells #[.int .i64 a] 3) (c := #[.int .i64 b]) (T := 3) (i := 0) rfl
    simpa using h
  have HMW := Lib.hid (H.below hbl (Nat.le_refl _))
  have HH := Lib.hid H
  have hra := H.ok.room
  clear H
  go_enter Tryz.func61, Tryz.ntmps61
  go_upto_region 1 with fail
  generalize ((w.alloc _).alloc _).alloc _ = W at *
  have HBL := Lib.hid hbl
  have C3 := Lib.hid c3
  have C4 := Lib.hid c4
  have C5 := Lib.hid c5
  have HBW : Hid (B ≤ W.heap.size) := Nat.le_trans hB hbl.size
  have hb2 := below_alloc1 W (.cells #[.int .i64 a, .int .i64 b] 3)
  have HB2 := Lib.hid hb2
  have HED : Hid (Calls Tryz.prog 137 #[.pointer (some ⟨pm, 0, none⟩), .func (.func 142) #[] #[.pointer (some ⟨w.heap.size, 0, none⟩), .pointer (some ⟨w.heap.size + 1, 0, none⟩), .pointer (some ⟨w.heap.size + 1 + 1, 0, none⟩)], .slice (some ⟨W.heap.size, 0, none⟩) 2 2] (W.alloc (.cells #[.int .i64 a, .int .i64 b] 3)) fun e w' => e = .returned (.tuple #[.int .i64 (exclA (1 + I.length) s a b).1, .int .i64 0]) ∧ MkE w' B pm I (exclA (1 + I.length) s a b).2 vi bf sl ∧ KpM B pm bf (W.alloc (.cells #[.int .i64 a, .int .i64 b] 3)) w') := by
    refine edge_ok (HMW.out.below hb2 (Nat.le_refl _)) (Nat.le_trans HBW.out hb2.size) 142 #[] _ (exclA (1 + I.length) s a b) hf _ [a, b] (ints_two (by omega) (by omega)) ?_ xor1_enters (fun X hX => ?_)
    · rw [edgesB_true]
      intro e he
      simp only [List.mem_cons, List.not_mem_nil, or_false] at he
      rcases he with rfl | rfl
      · exact isE_true.1 ha
      · exact isE_true.1 hb
    · have hWX : Below W.heap.size W X := hb2.trans (hX.mono hb2.size)
      refine (xor1_any w.heap.size (w.heap.size + 1) (w.heap.size + 1 + 1) (HMW.out.below hWX (Nat.le_refl _)) (Nat.le_trans HBW.out hWX.size) ha hb ?_ ?_ ?_).mono (fun e w' h => h)
      · exact (hWX.cell (World.block_lt_of_cell? W _ C3.out)).trans C3.out
      · exact (hWX.cell (World.block_lt_of_cell? W _ C4.out)).trans C4.out
      · exact (hWX.cell (World.block_lt_of_cell? W _ C5.out)).trans C5.out
  clear hbl hb2 ha hb hra hf
  generalize hr1 : (exclA (1 + I.length) s a b).1 = r1 at HED
  generalize hr2 : (exclA (1 + I.length) s a b).2 = r2 at HED
  have HR1 := Lib.hid hr1
  have HR2 := Lib.hid hr2
  clear hr1 hr2
  go_wp2_with (go_at_call 137; refine HED.out.mono ?_; rintro e w4 ⟨rfl, hm, hk⟩; have HM4 := Lib.hid hm; have HK4 := Lib.hid hk; clear hm hk)
  go_ret2
  exact ⟨by rw [HR1.out]; rfl, by rw [HR2.out]; exact HM4.out, (KpM.of_below (HBL.out.trans (HB2.out.mono HBL.out.size)) hB).trans HK4.out⟩
end Go.Proofs.YtppglbffmgnooaaGreat

/- Pure: what Restrict makes; graphs of the call's own. -/
namespace Go.Proofs.YtppglbffmgnooaaGreat
open Go.RowKit Go.Maps
set_option linter.unusedVariables false
set_option linter.unusedSimpArgs false

def fixStep (f : Int → Option Int) (x : Int) : Int → Option Int := if 0 < x then updM (updM f (varC x) 0) x 1 else updM f (varC x) 0
/-- What an assignment fixes. -/
def fixF (a : List Int) : Int → Option Int := a.foldl fixStep (fun _ => none)
theorem fixStep_01 {f : Int → Option Int} (h : ∀ v y, f v = some y → y = 0 ∨ y = 1) (x : Int) : ∀ v y, fixStep f x v = some y → y = 0 ∨ y = 1 := by
  have hu : ∀ {g : Int → Option Int} (k z : Int), (∀ v y, g v = some y → y = 0 ∨ y = 1) → (z = 0 ∨ z = 1) → ∀ v y, updM g k z v = some y → y = 0 ∨ y = 1 := fun k z hg hz v y e => by
    unfold updM at e
    split at e
    · injection e with e; rw [← e]; exact hz
    · exact hg v y e
  intro v y e
  unfold fixStep at e
  split at e
  · exact hu x 1 (hu (varC x) 0 h (.inl rfl)) (.inr rfl) v y e
  · exact hu (varC x) 0 h (.inl rfl) v y e
theorem fixFold_01 : ∀ (a : List Int) (f : Int → Option Int), (∀ v y, f v = some y → y = 0 ∨ y = 1) → ∀ v y, a.foldl fixStep f v = some y → y = 0 ∨ y = 1
  | [], f, h => h
  | x :: r, f, h => fixFold_01 r _ (fixStep_01 h x)
theorem fixF_01 (a : List Int) : ∀ v y, fixF a v = some y → y = 0 ∨ y = 1 := fixFold_01 a _ (fun v y e => by cases e)
def restI (a I : List Int) : List Int := I.filter (fun v => !(fixF a v).isSome)
def restImg (a I : List Int) : Int → Int := orA (fixF a) (fun v => 2 * placeA (restI a I) v)
def restC (I : List Int) (A : List Pr) (l a : List Int) : List Int × Mq := copyA (1 + (restI a I).length) I A (restImg a I) l ([], false)
/-- What Restrict answers: inputs, Ands, edges, code. -/
def restR (I : List Int) (A : List Pr) (l a : List Int) : (List Int × List Pr) × List Int × Int := if hasA I A l = true ∧ mayB a = true then ((restI a I, (restC I A l a).2.1), (restC I A l a).1, 0) else (([], []), [], 2)
theorem mayFrom_of : ∀ (l : List Int) (p : Int), (∀ x ∈ l, p < x ∧ 0 < x ∧ x ≤ 65536) → l.Pairwise (· < ·) → mayFrom p l = true
  | [], p, _, _ => rfl
  | x :: r, p, h, hp => by
    obtain ⟨h1, h2⟩ := List.pairwise_cons.1 hp
    obtain ⟨h3, h4, h5⟩ := h x List.mem_cons_self
    unfold mayFrom
    have hv : varOf x = x := by unfold varOf; rw [if_neg (by omega), if_neg (by omega)]
    rw [hv, Bool.and_eq_true, decide_eq_true_eq]
    exact ⟨h3, mayFrom_of r x (fun y hy => ⟨h1 y hy, (h y (List.mem_cons_of_mem _ hy)).2⟩) h2⟩
theorem insB_of {I : List Int} (h : ∀ x ∈ I, 0 < x ∧ x ≤ 65536) (hp : I.Pairwise (· < ·)) : insB I = true := by
  unfold insB
  rw [Bool.and_eq_true]
  refine ⟨mayFrom_of I 0 (fun x hx => ⟨(h x hx).1, h x hx⟩) hp, ?_⟩
  simp only [Bool.not_eq_true', List.any_eq_false, decide_eq_true_eq]
  intro x hx
  have := (h x hx).1
  omega
theorem insB_filter {I : List Int} (h : insB I = true) (p : Int → Bool) : insB (I.filter p) = true := by
  obtain ⟨h1, h2⟩ := insB_lt h
  exact insB_of (fun x hx => h1 x (List.mem_filter.1 hx).1) (h2.sublist List.filter_sublist)
theorem img_isE {J : List Int} {f : Int → Option Int} (hf : ∀ v y, f v = some y → isE y (1 + J.length) = true) (v : Int) : isE (orA f (fun v => 2 * placeA J v) v) (1 + J.length) = true := by
  unfold orA
  cases e : f v with
  | some y => exact hf v y e
  | none =>
    have := placeA_bd J v
    rw [isE_true]
    simp only [Option.getD_none]
    omega
theorem restImg_isE (a I : List Int) (v : Int) : isE (restImg a I v) (1 + (restI a I).length) = true :=
  img_isE (fun v y e => by rw [isE_true]; rcases fixF_01 a v y e with rfl | rfl <;> omega) v
/-- A graph of the call's own. -/
structure GrO (w : World) (B : Nat) (vi va : Value) (I : List Int) (A : List Pr) : Prop where
  ins : InsO w B vi I
  i64 : In64 I
  il : I.length ≤ 4000000
  row : OwnP w B va A
  inp : InP A
  al : A.length ≤ 200000
theorem GrO.below {w w' : World} {B C : Nat} {vi va : Value} {I : List Int} {A : List Pr} (h : GrO w B vi va I A) (hb : Below C w w') (hC : w.heap.size ≤ C) : GrO w' B vi va I A :=
  ⟨h.ins.below hb hC, h.i64, h.il, h.row.below hb hC, h.inp, h.al⟩
theorem GrO.ints {w : World} {B : Nat} {vi va : Value} {I : List Int} {A : List Pr} (h : GrO w B vi va I A) : IsInts w vi I ∧ IsPairs w va A := ⟨h.ins.ints h.il h.i64, h.row.pairs (by have := h.al; omega) h.inp⟩
theorem GrO.nil (w : World) (B : Nat) : GrO w B (.slice none 0 0) (.slice none 0 0) [] [] := ⟨.inl (Own.nil _ _), (fun x hx => by cases hx), by simp, OwnP.nil _ _, (fun x hx => by cases hx), by simp⟩
def ResPost (w : World) (r : (List Int × List Pr) × List Int × Int) (e : Ending) (w' : World) : Prop :=
  ∃ vi va vl, e = .returned (.tuple #[.agg #[vi, va], vl, .int .i64 r.2.2]) ∧ GrO w' w.heap.size vi va r.1.1 r.1.2 ∧ Own w' w.heap.size vl r.2.1 ∧ Below w.heap.size w w'
theorem MkE.gr {w : World} {B pm : Nat} {I : List Int} {s : Mq} {vi va : Value} {bf sl : Nat} (h : MkE w B pm I s vi bf sl) (hc : w.cell? ⟨pm, 2, none⟩ = some va) : GrO w B vi va I s.1 := by
  obtain ⟨va', n, h⟩ := h
  obtain ⟨_, _, h2, _, _⟩ := h.cell
  rw [h2] at hc
  cases hc
  have := h.ok.room
  exact ⟨h.ins, h.i64, h.il, h.row, h.inp, by omega⟩
/-- A box of two cells, and what stands there when both are stored. -/
theorem box2_cells {W : World} {g : Nat} {a b : Value} {T : TypeId} (hh : W.heap[g]? = some (.cells #[a, b] T (0, 0))) : W.cell? ⟨g, 0, none⟩ = some a ∧ W.cell? ⟨g, 1, none⟩ = some b ∧ W.frozen? ⟨g, 0, none⟩ = false ∧ W.frozen? ⟨g, 1, none⟩ = false := by
  refine ⟨?_, ?_, ?_, ?_⟩ <;> simp [World.cell?, World.frozen?, hh]
theorem box2_put {W : World} {g : Nat} {a b : Value} {T : TypeId} (hh : W.heap[g]? = some (.cells #[a, b] T (0, 0))) (u v : Value) :
    (((W.setCell ⟨g, 0, none⟩ u).setCell ⟨g, 1, none⟩ v).cell? ⟨g, 0, none⟩ = some u ∧ ((W.setCell ⟨g, 0, none⟩ u).setCell ⟨g, 1, none⟩ v).cell? ⟨g, 1, none⟩ = some v) := by
  have h1 := heap_set_same (heap_set_same hh 0 u) 1 v
  exact ⟨by simp [World.cell?, h1], by simp [World.cell?, h1]⟩
/-- What the copier reads is kept while the maker works. -/
theorem copyAt_kp {w0 wc : World} {B pm bf : Nat} {vgi vga vl : Value} {J : List Int} {A : List Pr} {l : List Int} {bg bk bm : Nat} (HI : IsInts w0 vgi J) (HA : IsPairs w0 vga A) (HL : IsInts w0 vl l) (hb : Below w0.heap.size w0 wc) (h0 : w0.heap.size ≤ B)
    (hm : wc.heap[bm]? = some (.cells #[.pointer (some ⟨pm, 0, none⟩)] 69 (0, 0))) (hg : wc.heap[bg]? = some (.cells #[vgi, vga] 25 (0, 0))) (hk : wc.heap[bk]? = some (.cells #[.int .i64 ((1 + J.length : Nat) : Int)] 3 (0, 0)))
    (n1 : bm ≠ pm ∧ bm ≠ bf) (n2 : bg ≠ pm ∧ bg ≠ bf) (n3 : bk ≠ pm ∧ bk ≠ bf) : ∀ X, KpM B pm bf wc X → CopyAt X pm vgi vga vl J A l bg bk bm := fun X hX => by
  have hB := hb.trans (hX.below.mono h0)
  have gm := hX.same bm _ n1.1 n1.2 hm (fun e => absurd e (by decide))
  have gg := hX.same bg _ n2.1 n2.2 hg (fun e => absurd e (by decide))
  have gk := hX.same bk _ n3.1 n3.2 hk (fun e => absurd e (by decide))
  refine ⟨HI.below hB (Nat.le_refl _), HA.below hB (Nat.le_refl _), HL.below hB (Nat.le_refl _), ?_, ?_, ?_, ?_⟩
  · simp [World.cell?, gg]
  · simp [World.cell?, gg]
  · simp only [World.cell?, gk]; rfl
  · simp [World.cell?, gm]
/-- The maker's blocks are old ones. -/
theorem MkE.old {w : World} {B pm : Nat} {I : List Int} {s : Mq} {vi : Value} {bf sl : Nat} (h : MkE w B pm I s vi bf sl) : pm < w.heap.size ∧ bf < w.heap.size := by
  obtain ⟨va, n, h⟩ := h
  exact ⟨h.lt, h.map.lt⟩
end Go.Proofs.YtppglbffmgnooaaGreat
