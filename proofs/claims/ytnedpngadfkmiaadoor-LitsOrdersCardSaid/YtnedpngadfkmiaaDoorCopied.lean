/- copied, and Neg, which turns its copy in place. -/
import Derived.Test.YtnedpngadfkmiaaDoorFilt
namespace Go.Proofs.YtnedpngadfkmiaaDoor
open Go.RowKit
set_option linter.unusedVariables false

/-- 'copy(v, u)' over a row of the call's own, of one length. -/
theorem wpList_copyOwn {w : World} {ops : Array Oper} {rest : List Oper} {o : Oper} {a : Act} {Q : Exit → Act → World → Prop} (hgd : o.guard = none) (d s : Operand)
    (ho : o.op = .call { callee := .builtin .copy, args := #[d, s], argTypes := #[22, 22] }) (B : Nat) (v u : Value) (xs ys : List Int)
    (hd : a.eval d = v) (hs : a.eval s = u) (hown : Own w B v xs) (hu : IsInts w u ys) (hlen : ys.length = xs.length) (hnn : ∃ g, v.ownBlock = some g) (w0 : World) (hb : Below B w0 w)
    (h : ∀ w' z, Own w' B v ys → Below B w0 w' → wpList Tryd.prog ops Q rest (a.put o.dst z) w') : wpList Tryd.prog ops Q (o :: rest) a w := by
  obtain ⟨i0, hi, hz0, hz1, hz2⟩ := info_parts info_int
  obtain ⟨ad, scap, rfl, hcap, _, _, h64, b, off, ha, hc⟩ := hu
  rcases hown.2 with ⟨rfl, _⟩ | ⟨g, cap, cur, rfl, hB, hg, hnc, hcm, hcs, htk⟩
  · obtain ⟨g, hg⟩ := hnn; cases hg
  · have hcsz : cur.toList.length = cap := by simpa using hcs
    refine wpList_copy_splice hgd d s 22 22 ho 3 Tryd.underlying22 (by rw [hi]; simp [hz1]) (some ⟨g, 0, none⟩) ad xs.length cap ys.length scap hd hs g 0 cur.toList 3 hg (ys.map (Value.int .i64)) (by simp [hlen]) ?_ (by simp; omega) (ints_oneCell _ _) B w0 hb hB ?_
    · intro hpos
      have hne : ys ≠ [] := by intro e; simp [e] at hpos
      refine ⟨rfl, ⟨b, off, none⟩, (ha hne).1, fun j u hj => ?_⟩
      have hlt : j < ys.length := by have := (List.getElem?_eq_some_iff.1 hj).1; simpa using this
      rw [Addr.add_lit, hc j hlt, ← hj]
      simp [List.getD, hlt]
    · intro w' hH hb'
      refine h w' _ ?_ hb'
      refine ⟨by simp, .inr ⟨g, cap, _, by rw [hlen], hB, hH.out, by omega, hcm, ?_, ?_⟩⟩
      · simp [splice, hcsz]; omega
      · simp [splice]

/-- 'make([]int, n)'. -/
theorem wpList_mkInts {w : World} {ops : Array Oper} {rest : List Oper} {o : Oper} {a : Act} {Q : Exit → Act → World → Prop} (hgd : o.guard = none) (l c : Operand)
    (hop : o.op = Op.makeSlice 22 l c) (n : Nat) (hl : a.eval l = .int .i64 (n : Int)) (hc : a.eval c = .int .i64 (n : Int)) (hn : n ≤ 17592186044416)
    (h : ∀ w', Own w' w.heap.size (.slice (some ⟨w.heap.size, 0, none⟩) n n) (List.replicate n 0) → w.grownBy w' none → wpList Tryd.prog ops Q rest (a.put o.dst (.slice (some ⟨w.heap.size, 0, none⟩) n n)) w') : wpList Tryd.prog ops Q (o :: rest) a w := by
  obtain ⟨i0, hi, hz0, hz1, hz2⟩ := info_parts info_int
  refine wpList_make_full _ hgd l c 22 hop w.heap.size 3 i0 (.int .i64 0) 1 Tryd.underlying22 hi hz0 hz1 _ _ _ _ n hl hc rfl rfl (by rw [hz2]; omega) (by unfold maxLen; omega) (Nat.le_refl _) ?_
  intro w1 hown hg
  refine h w1 ?_ hg
  unfold Own
  simp only [List.length_replicate]
  have e : (madeCells (Value.int .i64 0).cells (n * 1)).toList = (List.replicate n (0 : Int)).map (Value.int .i64) := by
    rw [Nat.mul_one, show (Value.int IntKind.i64 0).cells = #[.int .i64 0] from rfl, toList_madeCells_one]; simp
  rw [e] at hown
  exact hown

def CopPost (w : World) (l : List Int) (e : Ending) (w' : World) : Prop :=
  e = .returned (.slice (some ⟨w.heap.size, 0, none⟩) l.length l.length) ∧ Own w' w.heap.size (.slice (some ⟨w.heap.size, 0, none⟩) l.length l.length) l ∧ Below w.heap.size w w'

set_option maxHeartbeats 400000 in
set_option maxRecDepth 100000 in
theorem copied_any (v : Value) (l : List Int) (w : World) (H : IsInts w v l) : Calls Tryd.prog 85 #[v] w (CopPost w l) := by
  have H0 := H
  obtain ⟨a, cap, rfl, _, _, hl, h64, b, off, ha, hc⟩ := H
  clear ha hc
  go_enter Tryd.func85, Tryd.ntmps85
  go_wp2_with (first | (at_make; refine wpList_mkInts rfl _ _ rfl l.length rfl rfl hl ?_; intro w1 hown1 hg; have hbel := (Below.refl w.heap.size w).grown hg (Nat.le_refl _) (fun k hk => by cases hk); have H1 := H0.below hbel (Nat.le_refl _)) | ((with_reducible show wpList _ _ _ _ _ _); refine wpList_copyOwn (o := ⟨some 9, _, _, _, _, _⟩) rfl (.tmp 7) (.tmp 8) rfl w.heap.size _ _ (List.replicate l.length 0) l rfl rfl hown1 H1 (by simp) ⟨_, rfl⟩ w hbel ?_; intro w2 z hown2 hbel2))
  go_ret
  exact ⟨rfl, hown2, hbel2⟩

theorem Own.cell {w : World} {B g n cap : Nat} {xs : List Int} (h : Own w B (.slice (some ⟨g, 0, none⟩) n cap) xs) (j : Nat) (hj : j < xs.length) : w.cell? ⟨g, j, none⟩ = some (.int .i64 (xs.getD j 0)) := by
  have hn : n = xs.length := by
    rcases h.2 with ⟨e, _⟩ | ⟨g', cap', cur, e, _⟩
    · cases e
    · injection e
  subst hn
  rw [World.ownsRow.cellAt (show w.ownsRow B 3 1 _ xs.length (xs.map (Value.int .i64)) from h) j (by omega)]
  simp [hj, List.getD]
theorem Own.frozen {w : World} {B g n cap : Nat} {xs : List Int} (h : Own w B (.slice (some ⟨g, 0, none⟩) n cap) xs) (j : Nat) : w.frozen? ⟨g, j, none⟩ = false := by
  have hn : n = xs.length := by
    rcases h.2 with ⟨e, _⟩ | ⟨g', cap', cur, e, _⟩
    · cases e
    · injection e
  subst hn
  exact World.ownsRow.frozenAt (show w.ownsRow B 3 1 _ xs.length (xs.map (Value.int .i64)) from h) j
theorem Own.store {w : World} {B g n cap : Nat} {xs : List Int} (h : Own w B (.slice (some ⟨g, 0, none⟩) n cap) xs) (j : Nat) (y : Int) : Own (w.setCell ⟨g, j, none⟩ (.int .i64 y)) B (.slice (some ⟨g, 0, none⟩) n cap) (xs.set j y) := by
  have hn : n = xs.length := by
    rcases h.2 with ⟨e, _⟩ | ⟨g', cap', cur, e, _⟩
    · cases e
    · injection e
  subst hn
  have := (World.ownsRow.stored (show w.ownsRow B 3 1 _ xs.length (xs.map (Value.int .i64)) from h) j (.int .i64 y)).1
  unfold Own
  rw [List.length_set, List.map_set]
  exact this
theorem Own.block {w : World} {B g n cap : Nat} {xs : List Int} (h : Own w B (.slice (some ⟨g, 0, none⟩) n cap) xs) : B ≤ g ∧ g < w.heap.size := h.lt g rfl

theorem set_mid (f : Int → Int) (l : List Int) (k : Nat) (h : k < l.length) : ((l.take k).map f ++ l.drop k).set k (f (l.getD k 0)) = (l.take (k + 1)).map f ++ l.drop (k + 1) := by
  have h1 : ((l.take k).map f).length = k := by simp; omega
  rw [List.set_append, if_neg (by omega), h1, Nat.sub_self, List.drop_eq_getElem_cons h, List.set_cons_zero, map_take_hit h]
  simp
theorem getD_mid (f : Int → Int) (l : List Int) (k : Nat) (h : k < l.length) : ((l.take k).map f ++ l.drop k).getD k 0 = l.getD k 0 := by
  have h1 : ((l.take k).map f).length = k := by simp; omega
  simp only [List.getD]
  rw [List.getElem?_append_right (by omega), h1]
  simp

set_option maxHeartbeats 400000 in
set_option maxRecDepth 100000 in
theorem neg_any (v : Value) (l : List Int) (w : World) (H : IsInts w v l) :
    Calls Tryd.prog 28 #[v] w (RetOwn w (negL l)) := by
  by_cases hm : mayB l = true
  · have HR : Hid (negL l = l.map (fun x => -x)) := by show _ = _; unfold negL; rw [if_pos hm]
    have hl : l.length ≤ 17592186044416 := by obtain ⟨_, _, _, _, _, hl, _⟩ := H; exact hl
    go_enter Tryd.func28, Tryd.ntmps28
    go_wp2_with (first | (go_at_call 24; refine (may_v _ l _ H).mono ?_; rintro e w1 ⟨rfl, rfl⟩) | (go_at_call 85; refine (copied_any _ l _ H).mono ?_; rintro e w1 ⟨rfl, hown0, hbel0⟩))
    go_loopw [12] (fun i wr => ∃ k : Nat, k ≤ l.length ∧ i = .int .i64 k ∧ Own wr w.heap.size (.slice (some ⟨w.heap.size, 0, none⟩) l.length l.length) ((l.take k).map (fun x => -x) ++ l.drop k) ∧ Below w.heap.size w wr) (fun i _ => l.length - (intOf i).toNat)
    case atStart => exact ⟨0, Nat.zero_le _, rfl, by simpa using hown0, hbel0⟩
    case round =>
      obtain ⟨k, hk, rfl, hown, hbel⟩ := hrel
      by_cases hlt : k < l.length
      · have hy := hown.cell k (by simp; omega)
        have hfz := hown.frozen k
        rw [getD_mid _ l k hlt] at hy
        obtain ⟨_, hy1, hy2⟩ := litB_bd (mayB_mem hm _ (getD_mem hlt))
        have HS := Lib.hid (set_mid (fun x => -x) l k hlt)
        have hown2 := hown.store k (-(l.getD k 0))
        have hb2 := hown.block.1
        generalize l.getD k 0 = y at *
        go_wp2
        go_roundw
        case rel => exact ⟨k + 1, by omega, by go_num, by rw [← HS.out]; exact hown2, hbel.setCell (by simp) _⟩
        case measure => simp [intOf]; omega
      · have hown2 := hown
        rw [List.take_of_length_le (by omega), List.drop_eq_nil_of_le (by omega), List.append_nil, ← HR.out] at hown2
        clear hown
        go_wp2
        go_ret
        exact ⟨_, rfl, hown2, hbel⟩
  · have hm' : mayB l = false := by simpa using hm
    have HR : Hid (negL l = []) := by show _ = _; unfold negL; rw [if_neg hm]
    clear hm
    go_enter Tryd.func28, Tryd.ntmps28
    go_wp2_with (go_at_call 24; refine (may_v _ l _ H).mono ?_; rintro e w1 ⟨rfl, rfl⟩)
    go_ret
    exact ⟨_, rfl, by rw [HR.out]; exact Own.nil _ _, Below.refl _ _⟩

end Go.Proofs.YtnedpngadfkmiaaDoor
