/- awake: the examples of the chapter. -/
import Derived.Test.YtnedpngadfkmiaaDoorAwakeP
import Derived.Deep.RegionHeld3
import Derived.Deep.RegionWith
import Derived.Deep.CutRange
namespace Go.Proofs.YtnedpngadfkmiaaDoor
open Go.RowKit
set_option linter.unusedVariables false
set_option linter.unusedSimpArgs false

def SameAt (w : World) : Prop := w.cell? ⟨0, 0, none⟩ = some (.func (.func 107) #[] #[])
theorem SameAt.lt {w : World} (h : SameAt w) : 0 < w.heap.size := World.block_lt_of_cell? w _ h
theorem SameAt.below {w w' : World} {B : Nat} (h : SameAt w) (hb : Below B w w') (hB : 0 < B) : SameAt w' := (hb.cell (p := ⟨0, 0, none⟩) hB).trans h

theorem sm (w : World) (v : Value) (l : List Int) (T : TypeId) (c : Array Value) (n : Nat) (hc : c = (l.map (Value.int .i64)).toArray) (hn : n = l.length) (h : IsInts w v l) (hl : sameB l l = true) :
    Calls Tryd.prog 107 #[v, .slice (some ⟨w.heap.size, 0, none⟩) n n] (w.alloc (.cells c T)) (fun e w' => e = .returned (.bool true) ∧ Below w.heap.size w w') := by
  subst hc hn
  have h64 : In64 l := by obtain ⟨_, _, _, _, _, _, h64, _⟩ := h; exact h64
  have hln : l.length ≤ 17592186044416 := by obtain ⟨_, _, _, _, _, h, _⟩ := h; exact h
  refine (same_any _ _ l l _ (h.below (bl1 w _) (Nat.le_refl _)) (IsInts.lit w l T h64 hln)).mono ?_
  rintro e w' ⟨h1, h2⟩
  exact ⟨by rw [h1, hl], (bl1 w _).trans (h2.below _)⟩

theorem bl3 (w : World) (o p q : Obj) : Below w.heap.size w (((w.alloc o).alloc p).alloc q) := (bl2 w o p).alloc (by simp; omega) q
theorem bl4 (w : World) (o p q r : Obj) : Below w.heap.size w ((((w.alloc o).alloc p).alloc q).alloc r) := (bl3 w o p q).alloc (by simp; omega) r
theorem bd0 (w : World) : Below w.heap.size w w.drew := (Below.refl _ w).trans (Quiet.below ⟨1, rfl⟩ _)
theorem bd1 (w : World) (o : Obj) : Below w.heap.size w (w.alloc o).drew := (bl1 w o).trans (Quiet.below ⟨1, rfl⟩ _)
theorem bd2 (w : World) (o p : Obj) : Below w.heap.size w ((w.alloc o).alloc p).drew := (bl2 w o p).trans (Quiet.below ⟨1, rfl⟩ _)

/-- A literal's block, wherever it lies. -/
theorem IsInts.blk {W : World} {g n : Nat} {l : List Int} {c : Array Value} {T : TypeId} (h : W.heap[g]? = some (.cells c T (0, 0))) (hc : c = (l.map (Value.int .i64)).toArray) (hn : n = l.length) (h64 : In64 l) (hl : l.length ≤ 17592186044416) : IsInts W (.slice (some ⟨g, 0, none⟩) n n) l := by
  subst hc hn
  refine ⟨_, _, rfl, ⟨Nat.le_refl _, fun h => by cases h⟩, by omega, hl, h64, g, 0, fun _ => ⟨rfl, (Array.getElem?_eq_some_iff.1 h).1⟩, fun j hj => ?_⟩
  simp only [World.cell?, h]
  simp [hj, List.getD]
theorem IsRows.blk {W : World} {g x y : Nat} {l m : List Int} {vl vm : Value} {T : TypeId} (h : W.heap[g]? = some (.cells #[vl, vm] T (0, 0))) (hl : IsInts W vl l) (hm : IsInts W vm m) : IsRows W (.slice (some ⟨g, 0, none⟩) 2 2) [l, m] := by
  refine ⟨_, _, rfl, ⟨Nat.le_refl _, fun h => by cases h⟩, by omega, by simp, g, 0, fun _ => ⟨rfl, (Array.getElem?_eq_some_iff.1 h).1⟩, fun j hj => ?_⟩
  simp only [World.cell?, h]
  match j, hj with
  | 0, _ => exact ⟨vl, by simp, hl⟩
  | 1, _ => exact ⟨vm, by simp, hm⟩

theorem heapq (w : World) (o : Obj) (k : Nat) : (w.alloc o).heap[k]? = if k = w.heap.size then some o else w.heap[k]? := Array.getElem?_push
theorem drewq (w : World) : w.drew.heap = w.heap := rfl
theorem sizeq (w : World) (o : Obj) : (w.alloc o).heap.size = w.heap.size + 1 := by simp
theorem at0 {w : World} {o : Obj} {k : Nat} (h : k = w.heap.size) : (w.alloc o).heap[k]? = some o := by rw [heapq, if_pos h]
theorem at1 {w : World} {o x : Obj} {k : Nat} (hk : k ≠ w.heap.size) (h : w.heap[k]? = some x) : (w.alloc o).heap[k]? = some x := by rw [heapq, if_neg hk]; exact h
theorem at2 {w : World} {x : Obj} {k : Nat} (h : w.heap[k]? = some x) : w.drew.heap[k]? = some x := h
theorem at3 {w w' : World} {x : Obj} {k : Nat} (hb : Below w.heap.size w w') (hk : k < w.heap.size) (h : w.heap[k]? = some x) : w'.heap[k]? = some x := (hb.block k hk).trans h
theorem bstep {w W : World} {o : Obj} (h : Below w.heap.size w W) : Below w.heap.size w (W.alloc o) := h.alloc h.size _
theorem bstepd {w W : World} (h : Below w.heap.size w W) : Below w.heap.size w W.drew := h.trans (Quiet.below ⟨1, rfl⟩ _)
theorem keepA {w : World} {a : Addr} {v : Value} {o : Obj} (h : w.cell? a = some v) : (w.alloc o).cell? a = some v := (World.cell?_alloc_some w a o (by rw [h]; rfl)).trans h
abbrev i64 (x : Int) : Value := .int .i64 x
theorem st1 (w W : World) (g h : Nat) (hb : Below w.heap.size w W) (hA : W.heap[g]? = some (.cells #[.int .i64 (-1), .int .i64 2] 3 (0, 0))) (hB : W.heap[h]? = some (.cells #[.int .i64 1, .int .i64 2, .int .i64 3] 3 (0, 0))) :
    Calls Tryd.prog 40 #[.slice (some ⟨g, 0, none⟩) 2 2, .slice (some ⟨h, 0, none⟩) 3 3] W (fun e w' => e = .returned (.int .i64 1) ∧ Below w.heap.size w w') :=
  (strike_any _ _ [-1, 2] [1, 2, 3] W (IsInts.blk hA rfl rfl (in64 _ (by decide)) (by decide)) (IsInts.blk hB rfl rfl (in64 _ (by decide)) (by decide))).mono fun e w' k => ⟨by rw [k.1, ex9], hb.trans (k.2.mono hb.size)⟩
theorem st2 (w W : World) (g h : Nat) (hb : Below w.heap.size w W) (hA : W.heap[g]? = some (.cells #[.int .i64 (-1), .int .i64 2] 3 (0, 0))) (hB : W.heap[h]? = some (.cells #[.int .i64 1, .int .i64 3] 3 (0, 0))) :
    Calls Tryd.prog 40 #[.slice (some ⟨g, 0, none⟩) 2 2, .slice (some ⟨h, 0, none⟩) 2 2] W (fun e w' => e = .returned (.int .i64 0) ∧ Below w.heap.size w w') :=
  (strike_any _ _ [-1, 2] [1, 3] W (IsInts.blk hA rfl rfl (in64 _ (by decide)) (by decide)) (IsInts.blk hB rfl rfl (in64 _ (by decide)) (by decide))).mono fun e w' k => ⟨by rw [k.1, ex10], hb.trans (k.2.mono hb.size)⟩
theorem co1 (w W : World) (g h : Nat) (hb : Below w.heap.size w W) (hA : W.heap[g]? = some (.cells #[.int .i64 2] 3 (0, 0))) (hB : W.heap[h]? = some (.cells #[.int .i64 1, .int .i64 5] 3 (0, 0))) :
    Calls Tryd.prog 42 #[.slice (some ⟨g, 0, none⟩) 1 1, .slice (some ⟨h, 0, none⟩) 2 2] W (fun e w' => e = .returned (.int .i64 1) ∧ Below w.heap.size w w') :=
  (compare_any _ _ [2] [1, 5] W (IsInts.blk hA rfl rfl (in64 _ (by decide)) (by decide)) (IsInts.blk hB rfl rfl (in64 _ (by decide)) (by decide))).mono fun e w' k => ⟨by rw [k.1, ex11], hb.trans (k.2.below.mono hb.size)⟩
theorem va1 (w W : World) (g h k : Nat) (hb : Below w.heap.size w W) (hA : W.heap[g]? = some (.cells #[.int .i64 2, .int .i64 (-7)] 3 (0, 0))) (hB : W.heap[h]? = some (.cells #[.int .i64 7, .int .i64 0] 3 (0, 0)))
    (hC : W.heap[k]? = some (.cells #[.slice (some ⟨g, 0, none⟩) 2 2, .slice (some ⟨h, 0, none⟩) 2 2] 22 (0, 0))) :
    Calls Tryd.prog 47 #[.slice (some ⟨k, 0, none⟩) 2 2] W (fun e w' => ∃ v, e = .returned v ∧ IsInts w' v [2, 7] ∧ Below W.heap.size W w' ∧ Below w.heap.size w w') :=
  (vars_any _ [[2, -7], [7, 0]] W (IsRows.blk (x := 0) (y := 0) hC (IsInts.blk hA rfl rfl (in64 _ (by decide)) (by decide)) (IsInts.blk hB rfl rfl (in64 _ (by decide)) (by decide)))).mono fun e w' k => by
    obtain ⟨r, ⟨v, h1, h2, h3⟩, h4, h5, h6⟩ := k
    have hr := VarsOf.unique h4 ex12
    subst hr
    exact ⟨v, h1, h2.ints (by omega) h6, h3, hb.trans (h3.mono hb.size)⟩
theorem sm2 (w W : World) (v : Value) (k : Nat) (hb : Below w.heap.size w W) (hv : IsInts w v [2, 7]) (hA : W.heap[k]? = some (.cells #[.int .i64 2, .int .i64 7] 3 (0, 0))) :
    Calls Tryd.prog 107 #[v, .slice (some ⟨k, 0, none⟩) 2 2] W (fun e w' => e = .returned (.bool true) ∧ Below w.heap.size w w') :=
  (same_any _ _ [2, 7] [2, 7] W (hv.below hb (Nat.le_refl _)) (IsInts.blk hA rfl rfl (in64 _ (by decide)) (by decide))).mono fun e w' k => ⟨by rw [k.1]; exact congrArg (fun b => Ending.returned (.bool b)) sa3, hb.trans (k.2.below _)⟩

def Sg (w wx : World) : Prop := SameAt wx ∧ Below w.heap.size w wx
theorem Sg.below {w W w' : World} (h : Sg w W) (hb : Below W.heap.size W w') : Sg w w' := ⟨h.1.below hb h.1.lt, h.2.trans (hb.mono h.2.size)⟩
theorem Sg.alloc {w W : World} (h : Sg w W) (o : Obj) : Sg w (W.alloc o) := h.below (bl1 _ _)
theorem Sg.drew {w W : World} (h : Sg w W) : Sg w W.drew := h.below (bd0 _)
theorem takeD {P : Program} {md : Region.Mode} {ops : Array Oper} {Q : Exit → Act → World → Prop} {S : World → Prop} {i : Nat} {oi : Oper} {v : Value} (d : Option Tmp) {fuel : Nat} {listed : Array Bool} {a : Act} {w : World} (hi : ops[i]? = some oi) (hd : oi.dst = d)
    (hs : Region.noSelect ops = true) (hf : Region.free md ops listed i = true) (hr : (Region.ready md ops listed).contains i = true)
    (hQ : ∀ c a w, Q (.panic c) (a.put oi.dst v) w → Q (.panic c) a w) (hy : YieldsIf P ops S oi v a) (hS : S w)
    (h : wpAnyH P md ops Q S fuel (listed.setIfInBounds i true) (a.put d v) w) : wpAnyH P md ops Q S (fuel + 1) listed a w := by
  subst hd
  exact wpAnyH_take hi hs hf hr hQ hy hS h
theorem cut2 {P : Program} {md : Region.Mode} {ops : Array Oper} {Q : Exit → Act → World → Prop} {S G : World → Prop} {fu : Nat} {li : Array Bool} {f : Nat → Nat → Act} {R : Prop}
    (main : (∀ x y wx, G wx → wpAnyH P md ops Q S fu li (f x y) wx) → R) (tail : ∀ x y wx, G wx → wpAnyH P md ops Q S fu li (f x y) wx) : R := main tail

set_option maxHeartbeats 4000000 in
set_option maxRecDepth 100000 in
theorem awake_any (w : World) (hT : Pow w.heap.size w) (hS : SameAt w) : Calls Tryd.prog 19 #[] w (fun e w' => e = .returned (.bool true) ∧ Below w.heap.size w w') := by
  have hlt := hS.lt
  have HT := Lib.hid hT
  have HS := Lib.hid hS
  clear hT hS
  go_enter Tryd.func19, Tryd.ntmps19
  go_upto_region 9 with (first
    | (go_at_call_of 20 w; refine (aw1 w).mono ?_; rintro e w1 ⟨va, rfl, ha1, hb1⟩; have hs1 := hb1.size)
    | (go_at_call_of 20 w1; refine (aw2 w1).mono ?_; rintro e w2 ⟨vx2, rfl, -, hb2⟩; have hs2 := hb2.size)
    | (go_at_call_of 20 w2; refine (aw3 w2).mono ?_; rintro e w3 ⟨vx3, rfl, -, hb3⟩; have hs3 := hb3.size)
    | (go_at_call_of 36 w3; refine (aw4 w3).mono ?_; rintro e w4 ⟨vb, rfl, ha4, hb4⟩; have hs4 := hb4.size)
    | (go_at_call_of 36 w4; refine (aw5 w4).mono ?_; rintro e w5 ⟨vx5, rfl, -, hb5⟩; have hs5 := hb5.size)
    | (go_at_call_of 36 w5; refine (aw6 w5).mono ?_; rintro e w6 ⟨vx6, rfl, -, hb6⟩; have hs6 := hb6.size; have hq1 := ((((hb1.trans (hb2.mono (by omega))).trans (hb3.mono (by omega))).trans (hb4.mono (by omega))).trans (hb5.mono (by omega))).trans (hb6.mono (by omega)); have hT6 := (HT.out.on hq1).up (C := w6.heap.size) (by omega))
    | (go_at_call 52; refine (aw7 w6 hT6).mono ?_; rintro e w7 ⟨rfl, hb7⟩; have hs7 := hb7.size)
    | (go_at_call 54; refine (aw8 w7).mono ?_; rintro e w8 ⟨vx8, rfl, -, hb8⟩; have hs8 := hb8.size; have ha8 := ((((((ha1.below hb2 (Nat.le_refl _)).below hb3 (by omega)).below hb4 (by omega)).below hb5 (by omega)).below hb6 (by omega)).below hb7 (by omega)).below hb8 (by omega); have hd8 := (((ha4.below hb5 (by omega)).below hb6 (by omega)).below hb7 (by omega)).below hb8 (by omega); have hq8 := (hq1.trans (hb7.mono (by omega))).trans (hb8.mono (by omega)); have hg8 := HS.out.below hq8 hlt; unfold SameAt at hg8))
  go_cut [17] from 18 to 105 (fun s wx => s = .bool true ∧ Below w.heap.size w wx)
  case first =>
    go_wp2_with (first
      | (go_at_call_of 107 va; refine (sm w8 va [-1, 3] 3 _ _ rfl rfl ha8 sa1).mono ?_; rintro e w9 ⟨rfl, hb9⟩; have hs9 := hb9.size; have hd9 := hd8.below hb9 (by omega); have hq9 := hq8.trans (hb9.mono (by omega)); have hg9 := HS.out.below hq9 hlt; unfold SameAt at hg9)
      | (go_at_call_of 107 vb; refine (sm w9 vb [1, 3] 3 _ _ rfl rfl hd9 sa2).mono ?_; rintro e w10 ⟨rfl, hb10⟩; have hs10 := hb10.size; have hq10 := hq9.trans (hb10.mono (by omega)); have hg10 := HS.out.below hq10 hlt; unfold SameAt at hg10))
    go_meet
    case rel => exact ⟨rfl, hq10⟩
  case rest =>
  obtain ⟨rfl, hq10⟩ := hcut
  have hsg : Sg w wc := ⟨HS.out.below hq10 hlt, hq10⟩
  clear hq10 HT HS hq1 hT6 hb1 hb2 hb3 hb4 hb5 hb6 hb7 hb8 ha1 ha4 ha8 hd8 hg8 hq8 hs1 hs2 hs3 hs4 hs5 hs6 hs7 hs8
  generalize wc = w10 at *
  go_wp2_with fail
  refine wp_region_held_drew (S := Sg w) (by kernel_rfl) hsg.drew (fun hHeld => ?_)
  refine takeD (i := 0) (v := .bool true) (some 106) rfl rfl (by kernel_rfl) (by kernel_rfl) (by kernel_rfl) (fun _ _ _ h => h) (Or.inl ⟨by rfl, ?_⟩) (by assumption) ?_
  · intro wz hSw; have hcz := hSw.1; unfold SameAt at hcz; go_simp
  try simp only [Act.put, List.setIfInBounds_toArray, List.set_cons_zero, List.set_cons_succ]
  refine takeD (i := 1) (v := .bool true) (some 107) rfl rfl (by kernel_rfl) (by kernel_rfl) (by kernel_rfl) (fun _ _ _ h => h) (Or.inl ⟨by rfl, ?_⟩) (by assumption) ?_
  · intro wz hSw; have hcz := hSw.1; unfold SameAt at hcz; go_simp
  try simp only [Act.put, List.setIfInBounds_toArray, List.set_cons_zero, List.set_cons_succ]
  apply cut2 (P := Tryd.prog) (md := .any) (G := Sg w)
  · intro tail
    refine wpAnyH_ready (rs := [2, 3]) (by kernel_rfl) (by simp) ?_
    refine AllReadyH.cons rfl (fun K hK => ?_) ?_
    ·
      go_simp
      refine hK.out _ _ (Sg.alloc (by assumption) _) (fun hHeld => ?_)
      clear hK K
      refine wpAnyH_ready (rs := [3]) (by kernel_rfl) (by simp) ?_
      refine AllReadyH.cons rfl (fun K hK => ?_) ?_
      ·
        go_simp
        refine hK.out _ _ (Sg.alloc (by assumption) _) (fun hHeld => ?_)
        clear hK K
        refine wpAnyH_ready (rs := [4]) (by kernel_rfl) (by simp) ?_
        refine AllReadyH.cons rfl (fun K hK => ?_) ?_
        ·
          go_simp
          go_wp2_with (go_at_call 40; refine (st1 _ _ _ _ (Below.refl _ _) ?_ ?_).mono ?_; (focus (repeat (first | ((with_reducible refine at0 ?_); simp; done) | ((with_reducible refine at1 ?_ ?_); (focus (first | (simp; done) | (simp; omega) | omega))) | (with_reducible refine at2 ?_)))); (focus (repeat (first | ((with_reducible refine at0 ?_); simp; done) | ((with_reducible refine at1 ?_ ?_); (focus (first | (simp; done) | (simp; omega) | omega))) | (with_reducible refine at2 ?_)))); rintro e w11 ⟨rfl, hbz⟩)
          refine hK.out _ _ (Sg.below (by assumption) hbz) (fun hHeld => ?_)
          clear hK K
          refine takeD (i := 5) (v := .bool true) (some 111) rfl rfl (by kernel_rfl) (by kernel_rfl) (by kernel_rfl) (fun _ _ _ h => h) (Or.inl ⟨by rfl, ?_⟩) (by assumption) ?_
          · intro wz hSw; have hcz := hSw.1; unfold SameAt at hcz; go_simp
          try simp only [Act.put, List.setIfInBounds_toArray, List.set_cons_zero, List.set_cons_succ]
          refine takeD (i := 6) (v := .bool true) (some 112) rfl rfl (by kernel_rfl) (by kernel_rfl) (by kernel_rfl) (fun _ _ _ h => h) (Or.inl ⟨by rfl, ?_⟩) (by assumption) ?_
          · intro wz hSw; have hcz := hSw.1; unfold SameAt at hcz; go_simp
          try simp only [Act.put, List.setIfInBounds_toArray, List.set_cons_zero, List.set_cons_succ]
          refine takeD (i := 7) (v := .bool true) (some 113) rfl rfl (by kernel_rfl) (by kernel_rfl) (by kernel_rfl) (fun _ _ _ h => h) (Or.inl ⟨by rfl, ?_⟩) (by assumption) ?_
          · intro wz hSw; have hcz := hSw.1; unfold SameAt at hcz; go_simp
          try simp only [Act.put, List.setIfInBounds_toArray, List.set_cons_zero, List.set_cons_succ]
          generalize w10.heap.size + 1 = nb
          generalize w10.heap.size = na
          exact tail na nb _ (by assumption)
        exact AllReadyH.nil
      exact AllReadyH.nil
    refine AllReadyH.cons rfl (fun K hK => ?_) ?_
    ·
      go_simp
      refine hK.out _ _ (Sg.alloc (by assumption) _) (fun hHeld => ?_)
      clear hK K
      refine wpAnyH_ready (rs := [2]) (by kernel_rfl) (by simp) ?_
      refine AllReadyH.cons rfl (fun K hK => ?_) ?_
      ·
        go_simp
        refine hK.out _ _ (Sg.alloc (by assumption) _) (fun hHeld => ?_)
        clear hK K
        refine wpAnyH_ready (rs := [4]) (by kernel_rfl) (by simp) ?_
        refine AllReadyH.cons rfl (fun K hK => ?_) ?_
        ·
          go_simp
          go_wp2_with (go_at_call 40; refine (st1 _ _ _ _ (Below.refl _ _) ?_ ?_).mono ?_; (focus (repeat (first | ((with_reducible refine at0 ?_); simp; done) | ((with_reducible refine at1 ?_ ?_); (focus (first | (simp; done) | (simp; omega) | omega))) | (with_reducible refine at2 ?_)))); (focus (repeat (first | ((with_reducible refine at0 ?_); simp; done) | ((with_reducible refine at1 ?_ ?_); (focus (first | (simp; done) | (simp; omega) | omega))) | (with_reducible refine at2 ?_)))); rintro e w11 ⟨rfl, hbz⟩)
          refine hK.out _ _ (Sg.below (by assumption) hbz) (fun hHeld => ?_)
          clear hK K
          refine takeD (i := 5) (v := .bool true) (some 111) rfl rfl (by kernel_rfl) (by kernel_rfl) (by kernel_rfl) (fun _ _ _ h => h) (Or.inl ⟨by rfl, ?_⟩) (by assumption) ?_
          · intro wz hSw; have hcz := hSw.1; unfold SameAt at hcz; go_simp
          try simp only [Act.put, List.setIfInBounds_toArray, List.set_cons_zero, List.set_cons_succ]
          refine takeD (i := 6) (v := .bool true) (some 112) rfl rfl (by kernel_rfl) (by kernel_rfl) (by kernel_rfl) (fun _ _ _ h => h) (Or.inl ⟨by rfl, ?_⟩) (by assumption) ?_
          · intro wz hSw; have hcz := hSw.1; unfold SameAt at hcz; go_simp
          try simp only [Act.put, List.setIfInBounds_toArray, List.set_cons_zero, List.set_cons_succ]
          refine takeD (i := 7) (v := .bool true) (some 113) rfl rfl (by kernel_rfl) (by kernel_rfl) (by kernel_rfl) (fun _ _ _ h => h) (Or.inl ⟨by rfl, ?_⟩) (by assumption) ?_
          · intro wz hSw; have hcz := hSw.1; unfold SameAt at hcz; go_simp
          try simp only [Act.put, List.setIfInBounds_toArray, List.set_cons_zero, List.set_cons_succ]
          generalize w10.heap.size + 1 = nb
          generalize w10.heap.size = na
          exact tail nb na _ (by assumption)
        exact AllReadyH.nil
      exact AllReadyH.nil
    exact AllReadyH.nil
  intro naw11 nbw11 w11 hHeld
  try dsimp only
  apply cut2 (P := Tryd.prog) (md := .any) (G := Sg w)
  · intro tail
    refine wpAnyH_ready (rs := [8, 9]) (by kernel_rfl) (by simp) ?_
    refine AllReadyH.cons rfl (fun K hK => ?_) ?_
    ·
      go_simp
      refine hK.out _ _ (Sg.alloc (by assumption) _) (fun hHeld => ?_)
      clear hK K
      refine wpAnyH_ready (rs := [9]) (by kernel_rfl) (by simp) ?_
      refine AllReadyH.cons rfl (fun K hK => ?_) ?_
      ·
        go_simp
        refine hK.out _ _ (Sg.alloc (by assumption) _) (fun hHeld => ?_)
        clear hK K
        refine wpAnyH_ready (rs := [10]) (by kernel_rfl) (by simp) ?_
        refine AllReadyH.cons rfl (fun K hK => ?_) ?_
        ·
          go_simp
          go_wp2_with (go_at_call 40; refine (st2 _ _ _ _ (Below.refl _ _) ?_ ?_).mono ?_; (focus (repeat (first | ((with_reducible refine at0 ?_); simp; done) | ((with_reducible refine at1 ?_ ?_); (focus (first | (simp; done) | (simp; omega) | omega))) | (with_reducible refine at2 ?_)))); (focus (repeat (first | ((with_reducible refine at0 ?_); simp; done) | ((with_reducible refine at1 ?_ ?_); (focus (first | (simp; done) | (simp; omega) | omega))) | (with_reducible refine at2 ?_)))); rintro e w12 ⟨rfl, hbz⟩)
          refine hK.out _ _ (Sg.below (by assumption) hbz) (fun hHeld => ?_)
          clear hK K
          refine takeD (i := 11) (v := .bool true) (some 117) rfl rfl (by kernel_rfl) (by kernel_rfl) (by kernel_rfl) (fun _ _ _ h => h) (Or.inl ⟨by rfl, ?_⟩) (by assumption) ?_
          · intro wz hSw; have hcz := hSw.1; unfold SameAt at hcz; go_simp
          try simp only [Act.put, List.setIfInBounds_toArray, List.set_cons_zero, List.set_cons_succ]
          refine takeD (i := 12) (v := .bool true) (some 118) rfl rfl (by kernel_rfl) (by kernel_rfl) (by kernel_rfl) (fun _ _ _ h => h) (Or.inl ⟨by rfl, ?_⟩) (by assumption) ?_
          · intro wz hSw; have hcz := hSw.1; unfold SameAt at hcz; go_simp
          try simp only [Act.put, List.setIfInBounds_toArray, List.set_cons_zero, List.set_cons_succ]
          refine takeD (i := 13) (v := .bool true) (some 119) rfl rfl (by kernel_rfl) (by kernel_rfl) (by kernel_rfl) (fun _ _ _ h => h) (Or.inl ⟨by rfl, ?_⟩) (by assumption) ?_
          · intro wz hSw; have hcz := hSw.1; unfold SameAt at hcz; go_simp
          try simp only [Act.put, List.setIfInBounds_toArray, List.set_cons_zero, List.set_cons_succ]
          generalize w11.heap.size + 1 = nb
          generalize w11.heap.size = na
          exact tail na nb _ (by assumption)
        exact AllReadyH.nil
      exact AllReadyH.nil
    refine AllReadyH.cons rfl (fun K hK => ?_) ?_
    ·
      go_simp
      refine hK.out _ _ (Sg.alloc (by assumption) _) (fun hHeld => ?_)
      clear hK K
      refine wpAnyH_ready (rs := [8]) (by kernel_rfl) (by simp) ?_
      refine AllReadyH.cons rfl (fun K hK => ?_) ?_
      ·
        go_simp
        refine hK.out _ _ (Sg.alloc (by assumption) _) (fun hHeld => ?_)
        clear hK K
        refine wpAnyH_ready (rs := [10]) (by kernel_rfl) (by simp) ?_
        refine AllReadyH.cons rfl (fun K hK => ?_) ?_
        ·
          go_simp
          go_wp2_with (go_at_call 40; refine (st2 _ _ _ _ (Below.refl _ _) ?_ ?_).mono ?_; (focus (repeat (first | ((with_reducible refine at0 ?_); simp; done) | ((with_reducible refine at1 ?_ ?_); (focus (first | (simp; done) | (simp; omega) | omega))) | (with_reducible refine at2 ?_)))); (focus (repeat (first | ((with_reducible refine at0 ?_); simp; done) | ((with_reducible refine at1 ?_ ?_); (focus (first | (simp; done) | (simp; omega) | omega))) | (with_reducible refine at2 ?_)))); rintro e w12 ⟨rfl, hbz⟩)
          refine hK.out _ _ (Sg.below (by assumption) hbz) (fun hHeld => ?_)
          clear hK K
          refine takeD (i := 11) (v := .bool true) (some 117) rfl rfl (by kernel_rfl) (by kernel_rfl) (by kernel_rfl) (fun _ _ _ h => h) (Or.inl ⟨by rfl, ?_⟩) (by assumption) ?_
          · intro wz hSw; have hcz := hSw.1; unfold SameAt at hcz; go_simp
          try simp only [Act.put, List.setIfInBounds_toArray, List.set_cons_zero, List.set_cons_succ]
          refine takeD (i := 12) (v := .bool true) (some 118) rfl rfl (by kernel_rfl) (by kernel_rfl) (by kernel_rfl) (fun _ _ _ h => h) (Or.inl ⟨by rfl, ?_⟩) (by assumption) ?_
          · intro wz hSw; have hcz := hSw.1; unfold SameAt at hcz; go_simp
          try simp only [Act.put, List.setIfInBounds_toArray, List.set_cons_zero, List.set_cons_succ]
          refine takeD (i := 13) (v := .bool true) (some 119) rfl rfl (by kernel_rfl) (by kernel_rfl) (by kernel_rfl) (fun _ _ _ h => h) (Or.inl ⟨by rfl, ?_⟩) (by assumption) ?_
          · intro wz hSw; have hcz := hSw.1; unfold SameAt at hcz; go_simp
          try simp only [Act.put, List.setIfInBounds_toArray, List.set_cons_zero, List.set_cons_succ]
          generalize w11.heap.size + 1 = nb
          generalize w11.heap.size = na
          exact tail nb na _ (by assumption)
        exact AllReadyH.nil
      exact AllReadyH.nil
    exact AllReadyH.nil
  intro naw12 nbw12 w12 hHeld
  try dsimp only
  apply cut2 (P := Tryd.prog) (md := .any) (G := Sg w)
  · intro tail
    refine wpAnyH_ready (rs := [14, 15]) (by kernel_rfl) (by simp) ?_
    refine AllReadyH.cons rfl (fun K hK => ?_) ?_
    ·
      go_simp
      refine hK.out _ _ (Sg.alloc (by assumption) _) (fun hHeld => ?_)
      clear hK K
      refine wpAnyH_ready (rs := [15]) (by kernel_rfl) (by simp) ?_
      refine AllReadyH.cons rfl (fun K hK => ?_) ?_
      ·
        go_simp
        refine hK.out _ _ (Sg.alloc (by assumption) _) (fun hHeld => ?_)
        clear hK K
        refine wpAnyH_ready (rs := [16]) (by kernel_rfl) (by simp) ?_
        refine AllReadyH.cons rfl (fun K hK => ?_) ?_
        ·
          go_simp
          go_wp2_with (go_at_call 42; refine (co1 _ _ _ _ (Below.refl _ _) ?_ ?_).mono ?_; (focus (repeat (first | ((with_reducible refine at0 ?_); simp; done) | ((with_reducible refine at1 ?_ ?_); (focus (first | (simp; done) | (simp; omega) | omega))) | (with_reducible refine at2 ?_)))); (focus (repeat (first | ((with_reducible refine at0 ?_); simp; done) | ((with_reducible refine at1 ?_ ?_); (focus (first | (simp; done) | (simp; omega) | omega))) | (with_reducible refine at2 ?_)))); rintro e w13 ⟨rfl, hbz⟩)
          refine hK.out _ _ (Sg.below (by assumption) hbz) (fun hHeld => ?_)
          clear hK K
          refine takeD (i := 17) (v := .bool true) (some 123) rfl rfl (by kernel_rfl) (by kernel_rfl) (by kernel_rfl) (fun _ _ _ h => h) (Or.inl ⟨by rfl, ?_⟩) (by assumption) ?_
          · intro wz hSw; have hcz := hSw.1; unfold SameAt at hcz; go_simp
          try simp only [Act.put, List.setIfInBounds_toArray, List.set_cons_zero, List.set_cons_succ]
          refine takeD (i := 18) (v := .bool true) (some 124) rfl rfl (by kernel_rfl) (by kernel_rfl) (by kernel_rfl) (fun _ _ _ h => h) (Or.inl ⟨by rfl, ?_⟩) (by assumption) ?_
          · intro wz hSw; have hcz := hSw.1; unfold SameAt at hcz; go_simp
          try simp only [Act.put, List.setIfInBounds_toArray, List.set_cons_zero, List.set_cons_succ]
          refine takeD (i := 19) (v := .bool true) (some 125) rfl rfl (by kernel_rfl) (by kernel_rfl) (by kernel_rfl) (fun _ _ _ h => h) (Or.inl ⟨by rfl, ?_⟩) (by assumption) ?_
          · intro wz hSw; have hcz := hSw.1; unfold SameAt at hcz; go_simp
          try simp only [Act.put, List.setIfInBounds_toArray, List.set_cons_zero, List.set_cons_succ]
          generalize w12.heap.size + 1 = nb
          generalize w12.heap.size = na
          exact tail na nb _ (by assumption)
        exact AllReadyH.nil
      exact AllReadyH.nil
    refine AllReadyH.cons rfl (fun K hK => ?_) ?_
    ·
      go_simp
      refine hK.out _ _ (Sg.alloc (by assumption) _) (fun hHeld => ?_)
      clear hK K
      refine wpAnyH_ready (rs := [14]) (by kernel_rfl) (by simp) ?_
      refine AllReadyH.cons rfl (fun K hK => ?_) ?_
      ·
        go_simp
        refine hK.out _ _ (Sg.alloc (by assumption) _) (fun hHeld => ?_)
        clear hK K
        refine wpAnyH_ready (rs := [16]) (by kernel_rfl) (by simp) ?_
        refine AllReadyH.cons rfl (fun K hK => ?_) ?_
        ·
          go_simp
          go_wp2_with (go_at_call 42; refine (co1 _ _ _ _ (Below.refl _ _) ?_ ?_).mono ?_; (focus (repeat (first | ((with_reducible refine at0 ?_); simp; done) | ((with_reducible refine at1 ?_ ?_); (focus (first | (simp; done) | (simp; omega) | omega))) | (with_reducible refine at2 ?_)))); (focus (repeat (first | ((with_reducible refine at0 ?_); simp; done) | ((with_reducible refine at1 ?_ ?_); (focus (first | (simp; done) | (simp; omega) | omega))) | (with_reducible refine at2 ?_)))); rintro e w13 ⟨rfl, hbz⟩)
          refine hK.out _ _ (Sg.below (by assumption) hbz) (fun hHeld => ?_)
          clear hK K
          refine takeD (i := 17) (v := .bool true) (some 123) rfl rfl (by kernel_rfl) (by kernel_rfl) (by kernel_rfl) (fun _ _ _ h => h) (Or.inl ⟨by rfl, ?_⟩) (by assumption) ?_
          · intro wz hSw; have hcz := hSw.1; unfold SameAt at hcz; go_simp
          try simp only [Act.put, List.setIfInBounds_toArray, List.set_cons_zero, List.set_cons_succ]
          refine takeD (i := 18) (v := .bool true) (some 124) rfl rfl (by kernel_rfl) (by kernel_rfl) (by kernel_rfl) (fun _ _ _ h => h) (Or.inl ⟨by rfl, ?_⟩) (by assumption) ?_
          · intro wz hSw; have hcz := hSw.1; unfold SameAt at hcz; go_simp
          try simp only [Act.put, List.setIfInBounds_toArray, List.set_cons_zero, List.set_cons_succ]
          refine takeD (i := 19) (v := .bool true) (some 125) rfl rfl (by kernel_rfl) (by kernel_rfl) (by kernel_rfl) (fun _ _ _ h => h) (Or.inl ⟨by rfl, ?_⟩) (by assumption) ?_
          · intro wz hSw; have hcz := hSw.1; unfold SameAt at hcz; go_simp
          try simp only [Act.put, List.setIfInBounds_toArray, List.set_cons_zero, List.set_cons_succ]
          generalize w12.heap.size + 1 = nb
          generalize w12.heap.size = na
          exact tail nb na _ (by assumption)
        exact AllReadyH.nil
      exact AllReadyH.nil
    exact AllReadyH.nil
  intro naw13 nbw13 w13 hHeld
  try dsimp only
  refine takeD (i := 20) (v := .func (.func 107) #[] #[]) (some 126) rfl rfl (by kernel_rfl) (by kernel_rfl) (by kernel_rfl) (fun _ _ _ h => h) (Or.inl ⟨by rfl, ?_⟩) (by assumption) ?_
  · intro wz hSw; have hcz := hSw.1; unfold SameAt at hcz; go_simp
  try simp only [Act.put, List.setIfInBounds_toArray, List.set_cons_zero, List.set_cons_succ]
  refine wpAnyH_ready (rs := [21, 22, 25]) (by kernel_rfl) (by simp) ?_
  refine AllReadyH.cons rfl (fun K hK => ?_) ?_
  ·
    go_simp
    refine hK.out _ _ (Sg.alloc (by assumption) _) (fun hHeld => ?_)
    clear hK K
    refine wpAnyH_ready (rs := [22, 25]) (by kernel_rfl) (by simp) ?_
    refine AllReadyH.cons rfl (fun K hK => ?_) ?_
    ·
      go_simp
      refine hK.out _ _ (Sg.alloc (by assumption) _) (fun hHeld => ?_)
      clear hK K
      refine wpAnyH_ready (rs := [23, 25]) (by kernel_rfl) (by simp) ?_
      refine AllReadyH.cons rfl (fun K hK => ?_) ?_
      ·
        go_simp
        refine hK.out _ _ (Sg.alloc (by assumption) _) (fun hHeld => ?_)
        clear hK K
        refine wpAnyH_ready (rs := [24, 25]) (by kernel_rfl) (by simp) ?_
        refine AllReadyH.cons rfl (fun K hK => ?_) ?_
        ·
          go_simp
          go_wp2_with (go_at_call 47; refine (va1 _ _ ?_ ?_ _ (Below.refl _ _) ?_ ?_ ?_).mono ?_; rotate_left 4; (focus (repeat (first | ((with_reducible refine at0 ?_); simp; done) | ((with_reducible refine at1 ?_ ?_); (focus (first | (simp; done) | (simp; omega) | omega))) | (with_reducible refine at2 ?_)))); rotate_left 1; (focus (repeat (first | ((with_reducible refine at0 ?_); simp; done) | ((with_reducible refine at1 ?_ ?_); (focus (first | (simp; done) | (simp; omega) | omega))) | (with_reducible refine at2 ?_)))); (focus (repeat (first | ((with_reducible refine at0 ?_); simp; done) | ((with_reducible refine at1 ?_ ?_); (focus (first | (simp; done) | (simp; omega) | omega))) | (with_reducible refine at2 ?_)))); rintro e w14 ⟨vr, rfl, hi14, hk14, hbz⟩)
          refine hK.out _ _ (Sg.below (by assumption) hbz) (fun hHeld => ?_)
          clear hK K
          have hG14 := hHeld
          refine wpAnyH_ready (rs := [25]) (by kernel_rfl) (by simp) ?_
          refine AllReadyH.cons rfl (fun K hK => ?_) ?_
          ·
            go_simp
            refine hK.out _ _ (Sg.alloc (by assumption) _) (fun hHeld => ?_)
            clear hK K
            refine wpAnyH_ready (rs := [26]) (by kernel_rfl) (by simp) ?_
            refine AllReadyH.cons rfl (fun K hK => ?_) ?_
            ·
              go_simp
              go_wp2_with (go_at_call 107; refine (sm2 w14 _ _ _ ?_ hi14 ?_).mono ?_; (focus (repeat (first | with_reducible exact Below.refl _ _ | with_reducible refine bstep ?_ | with_reducible refine bstepd ?_))); (focus (repeat (first | ((with_reducible refine at0 ?_); simp; done) | ((with_reducible refine at1 ?_ ?_); (focus (first | (simp; done) | (simp; omega) | omega))) | (with_reducible refine at2 ?_)))); rintro e w15 ⟨rfl, hbz2⟩)
              refine hK.out _ _ (Sg.below hG14 hbz2) (fun hHeld => ?_)
              clear hK K
              refine takeD (i := 27) (v := .bool true) (some 133) rfl rfl (by kernel_rfl) (by kernel_rfl) (by kernel_rfl) (fun _ _ _ h => h) (Or.inl ⟨by rfl, ?_⟩) (by assumption) ?_
              · intro wz hSw; have hcz := hSw.1; unfold SameAt at hcz; go_simp
              try simp only [Act.put, List.setIfInBounds_toArray, List.set_cons_zero, List.set_cons_succ]
              refine takeD (i := 28) (v := .bool true) (some 0) rfl rfl (by kernel_rfl) (by kernel_rfl) (by kernel_rfl) (fun _ _ _ h => h) (Or.inl ⟨by rfl, ?_⟩) (by assumption) ?_
              · intro wz hSw; have hcz := hSw.1; unfold SameAt at hcz; go_simp
              try simp only [Act.put, List.setIfInBounds_toArray, List.set_cons_zero, List.set_cons_succ]
              refine wpAnyH_done (by kernel_rfl) ?_ _
              go_wp2; go_ret; exact ⟨rfl, hHeld.2⟩
            exact AllReadyH.nil
          exact AllReadyH.nil
        refine AllReadyH.cons rfl (fun K hK => ?_) ?_
        ·
          go_simp
          refine hK.out _ _ (Sg.alloc (by assumption) _) (fun hHeld => ?_)
          clear hK K
          refine wpAnyH_ready (rs := [24]) (by kernel_rfl) (by simp) ?_
          refine AllReadyH.cons rfl (fun K hK => ?_) ?_
          ·
            go_simp
            go_wp2_with (go_at_call 47; refine (va1 _ _ ?_ ?_ _ (Below.refl _ _) ?_ ?_ ?_).mono ?_; rotate_left 4; (focus (repeat (first | ((with_reducible refine at0 ?_); simp; done) | ((with_reducible refine at1 ?_ ?_); (focus (first | (simp; done) | (simp; omega) | omega))) | (with_reducible refine at2 ?_)))); rotate_left 1; (focus (repeat (first | ((with_reducible refine at0 ?_); simp; done) | ((with_reducible refine at1 ?_ ?_); (focus (first | (simp; done) | (simp; omega) | omega))) | (with_reducible refine at2 ?_)))); (focus (repeat (first | ((with_reducible refine at0 ?_); simp; done) | ((with_reducible refine at1 ?_ ?_); (focus (first | (simp; done) | (simp; omega) | omega))) | (with_reducible refine at2 ?_)))); rintro e w14 ⟨vr, rfl, hi14, hk14, hbz⟩)
            refine hK.out _ _ (Sg.below (by assumption) hbz) (fun hHeld => ?_)
            clear hK K
            have hG14 := hHeld
            refine wpAnyH_ready (rs := [26]) (by kernel_rfl) (by simp) ?_
            refine AllReadyH.cons rfl (fun K hK => ?_) ?_
            ·
              go_simp
              go_wp2_with (go_at_call 107; refine (sm2 w14 _ _ _ (Below.refl _ _) hi14 ?_).mono ?_; (focus (repeat (first | ((with_reducible refine at0 ?_); simp; done) | ((with_reducible refine at1 ?_ ?_); (focus (first | (simp; done) | (simp; omega) | omega))) | (with_reducible refine at2 ?_) | ((with_reducible refine at3 hk14 ?_ ?_); (focus (first | (simp; done) | (simp; omega) | omega)))))); rintro e w15 ⟨rfl, hbz2⟩)
              refine hK.out _ _ (Sg.below hG14 hbz2) (fun hHeld => ?_)
              clear hK K
              refine takeD (i := 27) (v := .bool true) (some 133) rfl rfl (by kernel_rfl) (by kernel_rfl) (by kernel_rfl) (fun _ _ _ h => h) (Or.inl ⟨by rfl, ?_⟩) (by assumption) ?_
              · intro wz hSw; have hcz := hSw.1; unfold SameAt at hcz; go_simp
              try simp only [Act.put, List.setIfInBounds_toArray, List.set_cons_zero, List.set_cons_succ]
              refine takeD (i := 28) (v := .bool true) (some 0) rfl rfl (by kernel_rfl) (by kernel_rfl) (by kernel_rfl) (fun _ _ _ h => h) (Or.inl ⟨by rfl, ?_⟩) (by assumption) ?_
              · intro wz hSw; have hcz := hSw.1; unfold SameAt at hcz; go_simp
              try simp only [Act.put, List.setIfInBounds_toArray, List.set_cons_zero, List.set_cons_succ]
              refine wpAnyH_done (by kernel_rfl) ?_ _
              go_wp2; go_ret; exact ⟨rfl, hHeld.2⟩
            exact AllReadyH.nil
          exact AllReadyH.nil
        exact AllReadyH.nil
      refine AllReadyH.cons rfl (fun K hK => ?_) ?_
      ·
        go_simp
        refine hK.out _ _ (Sg.alloc (by assumption) _) (fun hHeld => ?_)
        clear hK K
        refine wpAnyH_ready (rs := [23]) (by kernel_rfl) (by simp) ?_
        refine AllReadyH.cons rfl (fun K hK => ?_) ?_
        ·
          go_simp
          refine hK.out _ _ (Sg.alloc (by assumption) _) (fun hHeld => ?_)
          clear hK K
          refine wpAnyH_ready (rs := [24]) (by kernel_rfl) (by simp) ?_
          refine AllReadyH.cons rfl (fun K hK => ?_) ?_
          ·
            go_simp
            go_wp2_with (go_at_call 47; refine (va1 _ _ ?_ ?_ _ (Below.refl _ _) ?_ ?_ ?_).mono ?_; rotate_left 4; (focus (repeat (first | ((with_reducible refine at0 ?_); simp; done) | ((with_reducible refine at1 ?_ ?_); (focus (first | (simp; done) | (simp; omega) | omega))) | (with_reducible refine at2 ?_)))); rotate_left 1; (focus (repeat (first | ((with_reducible refine at0 ?_); simp; done) | ((with_reducible refine at1 ?_ ?_); (focus (first | (simp; done) | (simp; omega) | omega))) | (with_reducible refine at2 ?_)))); (focus (repeat (first | ((with_reducible refine at0 ?_); simp; done) | ((with_reducible refine at1 ?_ ?_); (focus (first | (simp; done) | (simp; omega) | omega))) | (with_reducible refine at2 ?_)))); rintro e w14 ⟨vr, rfl, hi14, hk14, hbz⟩)
            refine hK.out _ _ (Sg.below (by assumption) hbz) (fun hHeld => ?_)
            clear hK K
            have hG14 := hHeld
            refine wpAnyH_ready (rs := [26]) (by kernel_rfl) (by simp) ?_
            refine AllReadyH.cons rfl (fun K hK => ?_) ?_
            ·
              go_simp
              go_wp2_with (go_at_call 107; refine (sm2 w14 _ _ _ (Below.refl _ _) hi14 ?_).mono ?_; (focus (repeat (first | ((with_reducible refine at0 ?_); simp; done) | ((with_reducible refine at1 ?_ ?_); (focus (first | (simp; done) | (simp; omega) | omega))) | (with_reducible refine at2 ?_) | ((with_reducible refine at3 hk14 ?_ ?_); (focus (first | (simp; done) | (simp; omega) | omega)))))); rintro e w15 ⟨rfl, hbz2⟩)
              refine hK.out _ _ (Sg.below hG14 hbz2) (fun hHeld => ?_)
              clear hK K
              refine takeD (i := 27) (v := .bool true) (some 133) rfl rfl (by kernel_rfl) (by kernel_rfl) (by kernel_rfl) (fun _ _ _ h => h) (Or.inl ⟨by rfl, ?_⟩) (by assumption) ?_
              · intro wz hSw; have hcz := hSw.1; unfold SameAt at hcz; go_simp
              try simp only [Act.put, List.setIfInBounds_toArray, List.set_cons_zero, List.set_cons_succ]
              refine takeD (i := 28) (v := .bool true) (some 0) rfl rfl (by kernel_rfl) (by kernel_rfl) (by kernel_rfl) (fun _ _ _ h => h) (Or.inl ⟨by rfl, ?_⟩) (by assumption) ?_
              · intro wz hSw; have hcz := hSw.1; unfold SameAt at hcz; go_simp
              try simp only [Act.put, List.setIfInBounds_toArray, List.set_cons_zero, List.set_cons_succ]
              refine wpAnyH_done (by kernel_rfl) ?_ _
              go_wp2; go_ret; exact ⟨rfl, hHeld.2⟩
            exact AllReadyH.nil
          exact AllReadyH.nil
        exact AllReadyH.nil
      exact AllReadyH.nil
    refine AllReadyH.cons rfl (fun K hK => ?_) ?_
    ·
      go_simp
      refine hK.out _ _ (Sg.alloc (by assumption) _) (fun hHeld => ?_)
      clear hK K
      refine wpAnyH_ready (rs := [22]) (by kernel_rfl) (by simp) ?_
      refine AllReadyH.cons rfl (fun K hK => ?_) ?_
      ·
        go_simp
        refine hK.out _ _ (Sg.alloc (by assumption) _) (fun hHeld => ?_)
        clear hK K
        refine wpAnyH_ready (rs := [23]) (by kernel_rfl) (by simp) ?_
        refine AllReadyH.cons rfl (fun K hK => ?_) ?_
        ·
          go_simp
          refine hK.out _ _ (Sg.alloc (by assumption) _) (fun hHeld => ?_)
          clear hK K
          refine wpAnyH_ready (rs := [24]) (by kernel_rfl) (by simp) ?_
          refine AllReadyH.cons rfl (fun K hK => ?_) ?_
          ·
            go_simp
            go_wp2_with (go_at_call 47; refine (va1 _ _ ?_ ?_ _ (Below.refl _ _) ?_ ?_ ?_).mono ?_; rotate_left 4; (focus (repeat (first | ((with_reducible refine at0 ?_); simp; done) | ((with_reducible refine at1 ?_ ?_); (focus (first | (simp; done) | (simp; omega) | omega))) | (with_reducible refine at2 ?_)))); rotate_left 1; (focus (repeat (first | ((with_reducible refine at0 ?_); simp; done) | ((with_reducible refine at1 ?_ ?_); (focus (first | (simp; done) | (simp; omega) | omega))) | (with_reducible refine at2 ?_)))); (focus (repeat (first | ((with_reducible refine at0 ?_); simp; done) | ((with_reducible refine at1 ?_ ?_); (focus (first | (simp; done) | (simp; omega) | omega))) | (with_reducible refine at2 ?_)))); rintro e w14 ⟨vr, rfl, hi14, hk14, hbz⟩)
            refine hK.out _ _ (Sg.below (by assumption) hbz) (fun hHeld => ?_)
            clear hK K
            have hG14 := hHeld
            refine wpAnyH_ready (rs := [26]) (by kernel_rfl) (by simp) ?_
            refine AllReadyH.cons rfl (fun K hK => ?_) ?_
            ·
              go_simp
              go_wp2_with (go_at_call 107; refine (sm2 w14 _ _ _ (Below.refl _ _) hi14 ?_).mono ?_; (focus (repeat (first | ((with_reducible refine at0 ?_); simp; done) | ((with_reducible refine at1 ?_ ?_); (focus (first | (simp; done) | (simp; omega) | omega))) | (with_reducible refine at2 ?_) | ((with_reducible refine at3 hk14 ?_ ?_); (focus (first | (simp; done) | (simp; omega) | omega)))))); rintro e w15 ⟨rfl, hbz2⟩)
              refine hK.out _ _ (Sg.below hG14 hbz2) (fun hHeld => ?_)
              clear hK K
              refine takeD (i := 27) (v := .bool true) (some 133) rfl rfl (by kernel_rfl) (by kernel_rfl) (by kernel_rfl) (fun _ _ _ h => h) (Or.inl ⟨by rfl, ?_⟩) (by assumption) ?_
              · intro wz hSw; have hcz := hSw.1; unfold SameAt at hcz; go_simp
              try simp only [Act.put, List.setIfInBounds_toArray, List.set_cons_zero, List.set_cons_succ]
              refine takeD (i := 28) (v := .bool true) (some 0) rfl rfl (by kernel_rfl) (by kernel_rfl) (by kernel_rfl) (fun _ _ _ h => h) (Or.inl ⟨by rfl, ?_⟩) (by assumption) ?_
              · intro wz hSw; have hcz := hSw.1; unfold SameAt at hcz; go_simp
              try simp only [Act.put, List.setIfInBounds_toArray, List.set_cons_zero, List.set_cons_succ]
              refine wpAnyH_done (by kernel_rfl) ?_ _
              go_wp2; go_ret; exact ⟨rfl, hHeld.2⟩
            exact AllReadyH.nil
          exact AllReadyH.nil
        exact AllReadyH.nil
      exact AllReadyH.nil
    exact AllReadyH.nil
  refine AllReadyH.cons rfl (fun K hK => ?_) ?_
  ·
    go_simp
    refine hK.out _ _ (Sg.alloc (by assumption) _) (fun hHeld => ?_)
    clear hK K
    refine wpAnyH_ready (rs := [21, 25]) (by kernel_rfl) (by simp) ?_
    refine AllReadyH.cons rfl (fun K hK => ?_) ?_
    ·
      go_simp
      refine hK.out _ _ (Sg.alloc (by assumption) _) (fun hHeld => ?_)
      clear hK K
      refine wpAnyH_ready (rs := [23, 25]) (by kernel_rfl) (by simp) ?_
      refine AllReadyH.cons rfl (fun K hK => ?_) ?_
      ·
        go_simp
        refine hK.out _ _ (Sg.alloc (by assumption) _) (fun hHeld => ?_)
        clear hK K
        refine wpAnyH_ready (rs := [24, 25]) (by kernel_rfl) (by simp) ?_
        refine AllReadyH.cons rfl (fun K hK => ?_) ?_
        ·
          go_simp
          go_wp2_with (go_at_call 47; refine (va1 _ _ ?_ ?_ _ (Below.refl _ _) ?_ ?_ ?_).mono ?_; rotate_left 4; (focus (repeat (first | ((with_reducible refine at0 ?_); simp; done) | ((with_reducible refine at1 ?_ ?_); (focus (first | (simp; done) | (simp; omega) | omega))) | (with_reducible refine at2 ?_)))); rotate_left 1; (focus (repeat (first | ((with_reducible refine at0 ?_); simp; done) | ((with_reducible refine at1 ?_ ?_); (focus (first | (simp; done) | (simp; omega) | omega))) | (with_reducible refine at2 ?_)))); (focus (repeat (first | ((with_reducible refine at0 ?_); simp; done) | ((with_reducible refine at1 ?_ ?_); (focus (first | (simp; done) | (simp; omega) | omega))) | (with_reducible refine at2 ?_)))); rintro e w14 ⟨vr, rfl, hi14, hk14, hbz⟩)
          refine hK.out _ _ (Sg.below (by assumption) hbz) (fun hHeld => ?_)
          clear hK K
          have hG14 := hHeld
          refine wpAnyH_ready (rs := [25]) (by kernel_rfl) (by simp) ?_
          refine AllReadyH.cons rfl (fun K hK => ?_) ?_
          ·
            go_simp
            refine hK.out _ _ (Sg.alloc (by assumption) _) (fun hHeld => ?_)
            clear hK K
            refine wpAnyH_ready (rs := [26]) (by kernel_rfl) (by simp) ?_
            refine AllReadyH.cons rfl (fun K hK => ?_) ?_
            ·
              go_simp
              go_wp2_with (go_at_call 107; refine (sm2 w14 _ _ _ ?_ hi14 ?_).mono ?_; (focus (repeat (first | with_reducible exact Below.refl _ _ | with_reducible refine bstep ?_ | with_reducible refine bstepd ?_))); (focus (repeat (first | ((with_reducible refine at0 ?_); simp; done) | ((with_reducible refine at1 ?_ ?_); (focus (first | (simp; done) | (simp; omega) | omega))) | (with_reducible refine at2 ?_)))); rintro e w15 ⟨rfl, hbz2⟩)
              refine hK.out _ _ (Sg.below hG14 hbz2) (fun hHeld => ?_)
              clear hK K
              refine takeD (i := 27) (v := .bool true) (some 133) rfl rfl (by kernel_rfl) (by kernel_rfl) (by kernel_rfl) (fun _ _ _ h => h) (Or.inl ⟨by rfl, ?_⟩) (by assumption) ?_
              · intro wz hSw; have hcz := hSw.1; unfold SameAt at hcz; go_simp
              try simp only [Act.put, List.setIfInBounds_toArray, List.set_cons_zero, List.set_cons_succ]
              refine takeD (i := 28) (v := .bool true) (some 0) rfl rfl (by kernel_rfl) (by kernel_rfl) (by kernel_rfl) (fun _ _ _ h => h) (Or.inl ⟨by rfl, ?_⟩) (by assumption) ?_
              · intro wz hSw; have hcz := hSw.1; unfold SameAt at hcz; go_simp
              try simp only [Act.put, List.setIfInBounds_toArray, List.set_cons_zero, List.set_cons_succ]
              refine wpAnyH_done (by kernel_rfl) ?_ _
              go_wp2; go_ret; exact ⟨rfl, hHeld.2⟩
            exact AllReadyH.nil
          exact AllReadyH.nil
        refine AllReadyH.cons rfl (fun K hK => ?_) ?_
        ·
          go_simp
          refine hK.out _ _ (Sg.alloc (by assumption) _) (fun hHeld => ?_)
          clear hK K
          refine wpAnyH_ready (rs := [24]) (by kernel_rfl) (by simp) ?_
          refine AllReadyH.cons rfl (fun K hK => ?_) ?_
          ·
            go_simp
            go_wp2_with (go_at_call 47; refine (va1 _ _ ?_ ?_ _ (Below.refl _ _) ?_ ?_ ?_).mono ?_; rotate_left 4; (focus (repeat (first | ((with_reducible refine at0 ?_); simp; done) | ((with_reducible refine at1 ?_ ?_); (focus (first | (simp; done) | (simp; omega) | omega))) | (with_reducible refine at2 ?_)))); rotate_left 1; (focus (repeat (first | ((with_reducible refine at0 ?_); simp; done) | ((with_reducible refine at1 ?_ ?_); (focus (first | (simp; done) | (simp; omega) | omega))) | (with_reducible refine at2 ?_)))); (focus (repeat (first | ((with_reducible refine at0 ?_); simp; done) | ((with_reducible refine at1 ?_ ?_); (focus (first | (simp; done) | (simp; omega) | omega))) | (with_reducible refine at2 ?_)))); rintro e w14 ⟨vr, rfl, hi14, hk14, hbz⟩)
            refine hK.out _ _ (Sg.below (by assumption) hbz) (fun hHeld => ?_)
            clear hK K
            have hG14 := hHeld
            refine wpAnyH_ready (rs := [26]) (by kernel_rfl) (by simp) ?_
            refine AllReadyH.cons rfl (fun K hK => ?_) ?_
            ·
              go_simp
              go_wp2_with (go_at_call 107; refine (sm2 w14 _ _ _ (Below.refl _ _) hi14 ?_).mono ?_; (focus (repeat (first | ((with_reducible refine at0 ?_); simp; done) | ((with_reducible refine at1 ?_ ?_); (focus (first | (simp; done) | (simp; omega) | omega))) | (with_reducible refine at2 ?_) | ((with_reducible refine at3 hk14 ?_ ?_); (focus (first | (simp; done) | (simp; omega) | omega)))))); rintro e w15 ⟨rfl, hbz2⟩)
              refine hK.out _ _ (Sg.below hG14 hbz2) (fun hHeld => ?_)
              clear hK K
              refine takeD (i := 27) (v := .bool true) (some 133) rfl rfl (by kernel_rfl) (by kernel_rfl) (by kernel_rfl) (fun _ _ _ h => h) (Or.inl ⟨by rfl, ?_⟩) (by assumption) ?_
              · intro wz hSw; have hcz := hSw.1; unfold SameAt at hcz; go_simp
              try simp only [Act.put, List.setIfInBounds_toArray, List.set_cons_zero, List.set_cons_succ]
              refine takeD (i := 28) (v := .bool true) (some 0) rfl rfl (by kernel_rfl) (by kernel_rfl) (by kernel_rfl) (fun _ _ _ h => h) (Or.inl ⟨by rfl, ?_⟩) (by assumption) ?_
              · intro wz hSw; have hcz := hSw.1; unfold SameAt at hcz; go_simp
              try simp only [Act.put, List.setIfInBounds_toArray, List.set_cons_zero, List.set_cons_succ]
              refine wpAnyH_done (by kernel_rfl) ?_ _
              go_wp2; go_ret; exact ⟨rfl, hHeld.2⟩
            exact AllReadyH.nil
          exact AllReadyH.nil
        exact AllReadyH.nil
      refine AllReadyH.cons rfl (fun K hK => ?_) ?_
      ·
        go_simp
        refine hK.out _ _ (Sg.alloc (by assumption) _) (fun hHeld => ?_)
        clear hK K
        refine wpAnyH_ready (rs := [23]) (by kernel_rfl) (by simp) ?_
        refine AllReadyH.cons rfl (fun K hK => ?_) ?_
        ·
          go_simp
          refine hK.out _ _ (Sg.alloc (by assumption) _) (fun hHeld => ?_)
          clear hK K
          refine wpAnyH_ready (rs := [24]) (by kernel_rfl) (by simp) ?_
          refine AllReadyH.cons rfl (fun K hK => ?_) ?_
          ·
            go_simp
            go_wp2_with (go_at_call 47; refine (va1 _ _ ?_ ?_ _ (Below.refl _ _) ?_ ?_ ?_).mono ?_; rotate_left 4; (focus (repeat (first | ((with_reducible refine at0 ?_); simp; done) | ((with_reducible refine at1 ?_ ?_); (focus (first | (simp; done) | (simp; omega) | omega))) | (with_reducible refine at2 ?_)))); rotate_left 1; (focus (repeat (first | ((with_reducible refine at0 ?_); simp; done) | ((with_reducible refine at1 ?_ ?_); (focus (first | (simp; done) | (simp; omega) | omega))) | (with_reducible refine at2 ?_)))); (focus (repeat (first | ((with_reducible refine at0 ?_); simp; done) | ((with_reducible refine at1 ?_ ?_); (focus (first | (simp; done) | (simp; omega) | omega))) | (with_reducible refine at2 ?_)))); rintro e w14 ⟨vr, rfl, hi14, hk14, hbz⟩)
            refine hK.out _ _ (Sg.below (by assumption) hbz) (fun hHeld => ?_)
            clear hK K
            have hG14 := hHeld
            refine wpAnyH_ready (rs := [26]) (by kernel_rfl) (by simp) ?_
            refine AllReadyH.cons rfl (fun K hK => ?_) ?_
            ·
              go_simp
              go_wp2_with (go_at_call 107; refine (sm2 w14 _ _ _ (Below.refl _ _) hi14 ?_).mono ?_; (focus (repeat (first | ((with_reducible refine at0 ?_); simp; done) | ((with_reducible refine at1 ?_ ?_); (focus (first | (simp; done) | (simp; omega) | omega))) | (with_reducible refine at2 ?_) | ((with_reducible refine at3 hk14 ?_ ?_); (focus (first | (simp; done) | (simp; omega) | omega)))))); rintro e w15 ⟨rfl, hbz2⟩)
              refine hK.out _ _ (Sg.below hG14 hbz2) (fun hHeld => ?_)
              clear hK K
              refine takeD (i := 27) (v := .bool true) (some 133) rfl rfl (by kernel_rfl) (by kernel_rfl) (by kernel_rfl) (fun _ _ _ h => h) (Or.inl ⟨by rfl, ?_⟩) (by assumption) ?_
              · intro wz hSw; have hcz := hSw.1; unfold SameAt at hcz; go_simp
              try simp only [Act.put, List.setIfInBounds_toArray, List.set_cons_zero, List.set_cons_succ]
              refine takeD (i := 28) (v := .bool true) (some 0) rfl rfl (by kernel_rfl) (by kernel_rfl) (by kernel_rfl) (fun _ _ _ h => h) (Or.inl ⟨by rfl, ?_⟩) (by assumption) ?_
              · intro wz hSw; have hcz := hSw.1; unfold SameAt at hcz; go_simp
              try simp only [Act.put, List.setIfInBounds_toArray, List.set_cons_zero, List.set_cons_succ]
              refine wpAnyH_done (by kernel_rfl) ?_ _
              go_wp2; go_ret; exact ⟨rfl, hHeld.2⟩
            exact AllReadyH.nil
          exact AllReadyH.nil
        exact AllReadyH.nil
      exact AllReadyH.nil
    refine AllReadyH.cons rfl (fun K hK => ?_) ?_
    ·
      go_simp
      refine hK.out _ _ (Sg.alloc (by assumption) _) (fun hHeld => ?_)
      clear hK K
      refine wpAnyH_ready (rs := [21]) (by kernel_rfl) (by simp) ?_
      refine AllReadyH.cons rfl (fun K hK => ?_) ?_
      ·
        go_simp
        refine hK.out _ _ (Sg.alloc (by assumption) _) (fun hHeld => ?_)
        clear hK K
        refine wpAnyH_ready (rs := [23]) (by kernel_rfl) (by simp) ?_
        refine AllReadyH.cons rfl (fun K hK => ?_) ?_
        ·
          go_simp
          refine hK.out _ _ (Sg.alloc (by assumption) _) (fun hHeld => ?_)
          clear hK K
          refine wpAnyH_ready (rs := [24]) (by kernel_rfl) (by simp) ?_
          refine AllReadyH.cons rfl (fun K hK => ?_) ?_
          ·
            go_simp
            go_wp2_with (go_at_call 47; refine (va1 _ _ ?_ ?_ _ (Below.refl _ _) ?_ ?_ ?_).mono ?_; rotate_left 4; (focus (repeat (first | ((with_reducible refine at0 ?_); simp; done) | ((with_reducible refine at1 ?_ ?_); (focus (first | (simp; done) | (simp; omega) | omega))) | (with_reducible refine at2 ?_)))); rotate_left 1; (focus (repeat (first | ((with_reducible refine at0 ?_); simp; done) | ((with_reducible refine at1 ?_ ?_); (focus (first | (simp; done) | (simp; omega) | omega))) | (with_reducible refine at2 ?_)))); (focus (repeat (first | ((with_reducible refine at0 ?_); simp; done) | ((with_reducible refine at1 ?_ ?_); (focus (first | (simp; done) | (simp; omega) | omega))) | (with_reducible refine at2 ?_)))); rintro e w14 ⟨vr, rfl, hi14, hk14, hbz⟩)
            refine hK.out _ _ (Sg.below (by assumption) hbz) (fun hHeld => ?_)
            clear hK K
            have hG14 := hHeld
            refine wpAnyH_ready (rs := [26]) (by kernel_rfl) (by simp) ?_
            refine AllReadyH.cons rfl (fun K hK => ?_) ?_
            ·
              go_simp
              go_wp2_with (go_at_call 107; refine (sm2 w14 _ _ _ (Below.refl _ _) hi14 ?_).mono ?_; (focus (repeat (first | ((with_reducible refine at0 ?_); simp; done) | ((with_reducible refine at1 ?_ ?_); (focus (first | (simp; done) | (simp; omega) | omega))) | (with_reducible refine at2 ?_) | ((with_reducible refine at3 hk14 ?_ ?_); (focus (first | (simp; done) | (simp; omega) | omega)))))); rintro e w15 ⟨rfl, hbz2⟩)
              refine hK.out _ _ (Sg.below hG14 hbz2) (fun hHeld => ?_)
              clear hK K
              refine takeD (i := 27) (v := .bool true) (some 133) rfl rfl (by kernel_rfl) (by kernel_rfl) (by kernel_rfl) (fun _ _ _ h => h) (Or.inl ⟨by rfl, ?_⟩) (by assumption) ?_
              · intro wz hSw; have hcz := hSw.1; unfold SameAt at hcz; go_simp
              try simp only [Act.put, List.setIfInBounds_toArray, List.set_cons_zero, List.set_cons_succ]
              refine takeD (i := 28) (v := .bool true) (some 0) rfl rfl (by kernel_rfl) (by kernel_rfl) (by kernel_rfl) (fun _ _ _ h => h) (Or.inl ⟨by rfl, ?_⟩) (by assumption) ?_
              · intro wz hSw; have hcz := hSw.1; unfold SameAt at hcz; go_simp
              try simp only [Act.put, List.setIfInBounds_toArray, List.set_cons_zero, List.set_cons_succ]
              refine wpAnyH_done (by kernel_rfl) ?_ _
              go_wp2; go_ret; exact ⟨rfl, hHeld.2⟩
            exact AllReadyH.nil
          exact AllReadyH.nil
        exact AllReadyH.nil
      exact AllReadyH.nil
    exact AllReadyH.nil
  refine AllReadyH.cons rfl (fun K hK => ?_) ?_
  ·
    go_simp
    refine hK.out _ _ (Sg.alloc (by assumption) _) (fun hHeld => ?_)
    clear hK K
    refine wpAnyH_ready (rs := [21, 22]) (by kernel_rfl) (by simp) ?_
    refine AllReadyH.cons rfl (fun K hK => ?_) ?_
    ·
      go_simp
      refine hK.out _ _ (Sg.alloc (by assumption) _) (fun hHeld => ?_)
      clear hK K
      refine wpAnyH_ready (rs := [22]) (by kernel_rfl) (by simp) ?_
      refine AllReadyH.cons rfl (fun K hK => ?_) ?_
      ·
        go_simp
        refine hK.out _ _ (Sg.alloc (by assumption) _) (fun hHeld => ?_)
        clear hK K
        refine wpAnyH_ready (rs := [23]) (by kernel_rfl) (by simp) ?_
        refine AllReadyH.cons rfl (fun K hK => ?_) ?_
        ·
          go_simp
          refine hK.out _ _ (Sg.alloc (by assumption) _) (fun hHeld => ?_)
          clear hK K
          refine wpAnyH_ready (rs := [24]) (by kernel_rfl) (by simp) ?_
          refine AllReadyH.cons rfl (fun K hK => ?_) ?_
          ·
            go_simp
            go_wp2_with (go_at_call 47; refine (va1 _ _ ?_ ?_ _ (Below.refl _ _) ?_ ?_ ?_).mono ?_; rotate_left 4; (focus (repeat (first | ((with_reducible refine at0 ?_); simp; done) | ((with_reducible refine at1 ?_ ?_); (focus (first | (simp; done) | (simp; omega) | omega))) | (with_reducible refine at2 ?_)))); rotate_left 1; (focus (repeat (first | ((with_reducible refine at0 ?_); simp; done) | ((with_reducible refine at1 ?_ ?_); (focus (first | (simp; done) | (simp; omega) | omega))) | (with_reducible refine at2 ?_)))); (focus (repeat (first | ((with_reducible refine at0 ?_); simp; done) | ((with_reducible refine at1 ?_ ?_); (focus (first | (simp; done) | (simp; omega) | omega))) | (with_reducible refine at2 ?_)))); rintro e w14 ⟨vr, rfl, hi14, hk14, hbz⟩)
            refine hK.out _ _ (Sg.below (by assumption) hbz) (fun hHeld => ?_)
            clear hK K
            have hG14 := hHeld
            refine wpAnyH_ready (rs := [26]) (by kernel_rfl) (by simp) ?_
            refine AllReadyH.cons rfl (fun K hK => ?_) ?_
            ·
              go_simp
              go_wp2_with (go_at_call 107; refine (sm2 w14 _ _ _ (Below.refl _ _) hi14 ?_).mono ?_; (focus (repeat (first | ((with_reducible refine at0 ?_); simp; done) | ((with_reducible refine at1 ?_ ?_); (focus (first | (simp; done) | (simp; omega) | omega))) | (with_reducible refine at2 ?_) | ((with_reducible refine at3 hk14 ?_ ?_); (focus (first | (simp; done) | (simp; omega) | omega)))))); rintro e w15 ⟨rfl, hbz2⟩)
              refine hK.out _ _ (Sg.below hG14 hbz2) (fun hHeld => ?_)
              clear hK K
              refine takeD (i := 27) (v := .bool true) (some 133) rfl rfl (by kernel_rfl) (by kernel_rfl) (by kernel_rfl) (fun _ _ _ h => h) (Or.inl ⟨by rfl, ?_⟩) (by assumption) ?_
              · intro wz hSw; have hcz := hSw.1; unfold SameAt at hcz; go_simp
              try simp only [Act.put, List.setIfInBounds_toArray, List.set_cons_zero, List.set_cons_succ]
              refine takeD (i := 28) (v := .bool true) (some 0) rfl rfl (by kernel_rfl) (by kernel_rfl) (by kernel_rfl) (fun _ _ _ h => h) (Or.inl ⟨by rfl, ?_⟩) (by assumption) ?_
              · intro wz hSw; have hcz := hSw.1; unfold SameAt at hcz; go_simp
              try simp only [Act.put, List.setIfInBounds_toArray, List.set_cons_zero, List.set_cons_succ]
              refine wpAnyH_done (by kernel_rfl) ?_ _
              go_wp2; go_ret; exact ⟨rfl, hHeld.2⟩
            exact AllReadyH.nil
          exact AllReadyH.nil
        exact AllReadyH.nil
      exact AllReadyH.nil
    refine AllReadyH.cons rfl (fun K hK => ?_) ?_
    ·
      go_simp
      refine hK.out _ _ (Sg.alloc (by assumption) _) (fun hHeld => ?_)
      clear hK K
      refine wpAnyH_ready (rs := [21]) (by kernel_rfl) (by simp) ?_
      refine AllReadyH.cons rfl (fun K hK => ?_) ?_
      ·
        go_simp
        refine hK.out _ _ (Sg.alloc (by assumption) _) (fun hHeld => ?_)
        clear hK K
        refine wpAnyH_ready (rs := [23]) (by kernel_rfl) (by simp) ?_
        refine AllReadyH.cons rfl (fun K hK => ?_) ?_
        ·
          go_simp
          refine hK.out _ _ (Sg.alloc (by assumption) _) (fun hHeld => ?_)
          clear hK K
          refine wpAnyH_ready (rs := [24]) (by kernel_rfl) (by simp) ?_
          refine AllReadyH.cons rfl (fun K hK => ?_) ?_
          ·
            go_simp
            go_wp2_with (go_at_call 47; refine (va1 _ _ ?_ ?_ _ (Below.refl _ _) ?_ ?_ ?_).mono ?_; rotate_left 4; (focus (repeat (first | ((with_reducible refine at0 ?_); simp; done) | ((with_reducible refine at1 ?_ ?_); (focus (first | (simp; done) | (simp; omega) | omega))) | (with_reducible refine at2 ?_)))); rotate_left 1; (focus (repeat (first | ((with_reducible refine at0 ?_); simp; done) | ((with_reducible refine at1 ?_ ?_); (focus (first | (simp; done) | (simp; omega) | omega))) | (with_reducible refine at2 ?_)))); (focus (repeat (first | ((with_reducible refine at0 ?_); simp; done) | ((with_reducible refine at1 ?_ ?_); (focus (first | (simp; done) | (simp; omega) | omega))) | (with_reducible refine at2 ?_)))); rintro e w14 ⟨vr, rfl, hi14, hk14, hbz⟩)
            refine hK.out _ _ (Sg.below (by assumption) hbz) (fun hHeld => ?_)
            clear hK K
            have hG14 := hHeld
            refine wpAnyH_ready (rs := [26]) (by kernel_rfl) (by simp) ?_
            refine AllReadyH.cons rfl (fun K hK => ?_) ?_
            ·
              go_simp
              go_wp2_with (go_at_call 107; refine (sm2 w14 _ _ _ (Below.refl _ _) hi14 ?_).mono ?_; (focus (repeat (first | ((with_reducible refine at0 ?_); simp; done) | ((with_reducible refine at1 ?_ ?_); (focus (first | (simp; done) | (simp; omega) | omega))) | (with_reducible refine at2 ?_) | ((with_reducible refine at3 hk14 ?_ ?_); (focus (first | (simp; done) | (simp; omega) | omega)))))); rintro e w15 ⟨rfl, hbz2⟩)
              refine hK.out _ _ (Sg.below hG14 hbz2) (fun hHeld => ?_)
              clear hK K
              refine takeD (i := 27) (v := .bool true) (some 133) rfl rfl (by kernel_rfl) (by kernel_rfl) (by kernel_rfl) (fun _ _ _ h => h) (Or.inl ⟨by rfl, ?_⟩) (by assumption) ?_
              · intro wz hSw; have hcz := hSw.1; unfold SameAt at hcz; go_simp
              try simp only [Act.put, List.setIfInBounds_toArray, List.set_cons_zero, List.set_cons_succ]
              refine takeD (i := 28) (v := .bool true) (some 0) rfl rfl (by kernel_rfl) (by kernel_rfl) (by kernel_rfl) (fun _ _ _ h => h) (Or.inl ⟨by rfl, ?_⟩) (by assumption) ?_
              · intro wz hSw; have hcz := hSw.1; unfold SameAt at hcz; go_simp
              try simp only [Act.put, List.setIfInBounds_toArray, List.set_cons_zero, List.set_cons_succ]
              refine wpAnyH_done (by kernel_rfl) ?_ _
              go_wp2; go_ret; exact ⟨rfl, hHeld.2⟩
            exact AllReadyH.nil
          exact AllReadyH.nil
        exact AllReadyH.nil
      exact AllReadyH.nil
    exact AllReadyH.nil
  exact AllReadyH.nil

end Go.Proofs.YtnedpngadfkmiaaDoor
