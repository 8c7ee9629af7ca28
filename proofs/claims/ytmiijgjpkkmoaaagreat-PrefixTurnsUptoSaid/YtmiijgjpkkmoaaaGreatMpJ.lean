/- Joined texts: PxConcat, PxConcat2, PxDeps. -/
import Derived.Test.YtmiijgjpkkmoaaaGreatPxRowB
import Derived.Lib.AppendZeros
import Derived.Test.YtmiijgjpkkmoaaaGreatPxStable
/- slices.Grow of nil and slices.Concat over blocks. -/
namespace Go.Proofs.YtmiijgjpkkmoaaaGreat
open Go.RowKit
set_option linter.unusedVariables false
set_option linter.unusedSimpArgs false

theorem RowB.empty {w0 w : World} {B g cap : Nat} {cur : Array Value} (hb : Below w0.heap.size w0 w) (hB : w0.heap.size ≤ B) (hg : B ≤ g) (hh : w.heap[g]? = some (.cells cur 53 (0, 0))) (hc : cur.size = cap * 2) (hm : cap ≤ maxLen) : RowB w0 w B (.slice (some ⟨g, 0, none⟩) 0 cap) [] :=
  ⟨hb, hB, ⟨rfl, .inr ⟨g, cap, cur, rfl, hg, hh, Nat.zero_le _, hm, hc, by simp [cellsT]⟩⟩, by simp⟩

set_option maxRecDepth 100000 in
set_option maxHeartbeats 1600000 in
theorem grow_any (n : Nat) (w : World) (h0 : 0 < n) (hn : n ≤ 1000000) :
    Calls Tryz.prog 83 #[.slice none 0 0, .int .i64 n] w fun e w' => ∃ cap, e = .returned (.slice (some ⟨w.heap.size, 0, none⟩) 0 cap) ∧ RowB w w' w.heap.size (.slice (some ⟨w.heap.size, 0, none⟩) 0 cap) [] := by
  obtain ⟨i0, hi, hz0, hz1, hz2⟩ := info_parts info_blk
  have hr := fun ty => Lib.run_append_nil_zeros (P := Tryz.prog) w 22 3 ty 53 i0 (.agg #[.bool false, .slice none 0 0]) .i64 .i64 Tryz.underlying22 Tryz.underlying3 hi hz0 n h0 (by rw [hz1]; omega) (by omega) (by rw [hz2]; omega)
  have HR := Lib.hid hr
  have HGE := Lib.hid (grownCap_ge w n 0 53)
  have HLE := Lib.hid (grownCap_le_maxLen w n 0 53 (by unfold maxLen; omega))
  have hW : Hid (∀ cap, n ≤ cap → cap ≤ maxLen → RowB w (w.drew.alloc (.cells (Builtin.zeroCells (Value.agg #[.bool false, .slice none 0 0]).cells n ++ Builtin.zeroCells (Value.agg #[.bool false, .slice none 0 0]).cells (cap - n)) 53)) w.heap.size (.slice (some ⟨w.heap.size, 0, none⟩) 0 cap) []) := fun cap h1 h2 => by
    refine RowB.empty (((Below.refl w.heap.size w).drew).alloc (Nat.le_refl _) _) (Nat.le_refl _) (Nat.le_refl _) (World.alloc_heap_new w.drew _) ?_ h2
    rw [Array.size_append, size_zeroCells, size_zeroCells]
    simp [Value.cells]
    omega
  have hn0 : (0 : Int) < (n : Int) := by omega
  have hw1 : wrap64 (n : Int) = n := by
    obtain ⟨mi, hmi⟩ : ∃ x : Int, (n : Int) = x := ⟨_, rfl⟩
    rw [hmi]
    exact wrap64s (by omega) (by omega)
  have hn1 : ¬ (n : Int) < 0 := by omega
  clear hr
  obtain ⟨ni, hni⟩ : ∃ x : Int, (n : Int) = x := ⟨_, rfl⟩
  have HNI := Lib.hid hni
  rw [hni] at hn0 hw1 hn1 HR ⊢
  have hd0 : decide (ni < 0) = false := by simpa using hn1
  generalize grownCap w n 0 53 = cap at *
  clear hni
  go_enter Tryz.func83, Tryz.ntmps83
  go_upto_region 4 with fail
  rw [hw1]
  go_wp2_with (at_builtin; go_loud (refine Lib.wpList_append_run _ rfl (.tmp 20) (.tmp 21) 22 3 rfl (.slice none 0 0) (.int .i64 ni) rfl rfl _ _ (HR.out _) ?_))
  go_ret
  exact ⟨cap, rfl, hW.out cap HGE.out HLE.out⟩

theorem shapeT_getD {t : List Trp} {j : Nat} (hj : j < t.length) : (shapeT t).getD j dB = ((t.getD j (false, .slice none 0 0, [])).1, (t.getD j (false, .slice none 0 0, [])).2.2) := by
  unfold shapeT
  simp [List.getD, hj]
/-- The values of blocks that lie in memory. -/
theorem blk_vals {w : World} {a : Option Addr} {n cap : Nat} {q : List Blk} (H : IsBlocks w (.slice a n cap) q) : ∃ s : List Trp, shapeT s = q ∧ n = q.length ∧ (∀ x ∈ s, IsInts w x.2.1 x.2.2) ∧ (∀ ad, a = some ad → ∀ j u, (cellsT s)[j]? = some u → ad.block < w.heap.size ∧ w.cell? (ad.add j) = some u) ∧ (a = none → s = []) := by
  obtain ⟨a', cap', e, hcp, _, hl, b, off, ha, hc⟩ := H
  injection e with e1 e2 e3
  subst e1; subst e3
  have hex : ∀ k, k ≤ q.length → ∃ s : List Trp, shapeT s = q.take k ∧ (∀ x ∈ s, IsInts w x.2.1 x.2.2) ∧ (∀ j u, (cellsT s)[j]? = some u → w.cell? ⟨b, off + j, none⟩ = some u) := by
    intro k
    induction k with
    | zero => exact fun _ => ⟨[], by simp [shapeT], by simp, fun j u h => by simp [cellsT] at h⟩
    | succ k ih =>
      intro hk
      obtain ⟨s, h1, h2, h3⟩ := ih (by omega)
      obtain ⟨g1, u, g2, g3⟩ := hc k (by omega)
      have hlen : s.length = k := by
        have := congrArg List.length h1
        rw [shapeT_len, List.length_take] at this
        omega
      refine ⟨s ++ [((q.getD k dB).1, u, (q.getD k dB).2)], ?_, fun x hx => ?_, fun j v hj => ?_⟩
      · rw [shapeT_app, h1, take_two (d := dB) (by omega)]
        rfl
      · rcases List.mem_append.1 hx with hx | hx
        · exact h2 x hx
        · rw [List.mem_singleton] at hx
          subst hx
          exact g3
      · rw [cellsT_app] at hj
        by_cases hjl : j < (cellsT s).length
        · rw [List.getElem?_append_left hjl] at hj
          exact h3 j v hj
        · rw [List.getElem?_append_right (by omega), cellsT_len, hlen] at hj
          rw [cellsT_len, hlen] at hjl
          have e2 : cellsT [((q.getD k dB).1, u, (q.getD k dB).2)] = [.bool (q.getD k dB).1, u] := by simp [cellsT]
          rw [e2] at hj
          obtain ⟨m, hm⟩ : ∃ m, j = k * 2 + m := ⟨j - k * 2, by omega⟩
          subst hm
          rw [show k * 2 + m - k * 2 = m from by omega] at hj
          match m, hj with
          | 0, hj => simp at hj; subst hj; exact g1
          | 1, hj => simp at hj; subst hj; exact g2
  obtain ⟨s, h1, h2, h3⟩ := hex q.length (Nat.le_refl _)
  rw [List.take_length] at h1
  have hsl : s.length = q.length := by rw [← shapeT_len, h1]
  refine ⟨s, h1, e2, h2, fun ad had j u hj => ?_, fun hn => ?_⟩
  · have hne : q ≠ [] := by
      intro e
      have h4 := (List.getElem?_eq_some_iff.1 hj).1
      rw [cellsT_len, hsl, e] at h4
      exact absurd h4 (Nat.not_lt_zero _)
    obtain ⟨g1, g2⟩ := ha hne
    rw [had] at g1
    injection g1 with g1
    subst g1
    exact ⟨g2, by rw [Addr.add_lit]; exact h3 j u hj⟩
  · by_cases hne : q = []
    · exact List.eq_nil_of_length_eq_zero (by rw [hsl, hne]; rfl)
    · have := (ha hne).1
      rw [hn] at this
      cases this

theorem cells_one {w : World} {s : List Trp} (h : ∀ x ∈ s, IsInts w x.2.1 x.2.2) : ∀ u ∈ cellsT s, u.oneCell' = true := fun u hu => by
  unfold cellsT at hu
  obtain ⟨x, hx, hu⟩ := List.mem_flatMap.1 hu
  rcases List.mem_cons.1 hu with rfl | hu
  · rfl
  · rw [List.mem_singleton] at hu
    subst hu
    obtain ⟨a, c, e⟩ := (h x hx).shape
    rw [e]; rfl

/-- 'append(out, s...)' over blocks of an elder world. -/
theorem wpList_appBs {w0 w : World} {ops : Array Oper} {rest : List Oper} {o : Oper} {a : Act} {Q : Exit → Act → World → Prop} (hgd : o.guard = none) (sp x : Operand)
    (ho : o.op = .call { callee := .builtin .append, args := #[sp, x], argTypes := #[22, 22] }) (B : Nat) (v : Value) (t s : List Trp) (af : Option Addr) (m cap : Nat)
    (hs : a.eval sp = v) (hx : a.eval x = .slice af m cap) (hrow : w.ownsRow B 53 2 v t.length (cellsT t)) (hb0 : Below w0.heap.size w0 w) (hm : m = s.length) (hsi : ∀ x ∈ s, IsInts w0 x.2.1 x.2.2) (hsc : ∀ ad, af = some ad → ∀ j u, (cellsT s)[j]? = some u → ad.block < w0.heap.size ∧ w0.cell? (ad.add j) = some u) (hsn : af = none → s = [] ∧ cap = 0)
    (hlen : t.length + s.length ≤ 1000000) (hB : B ≤ w.heap.size)
    (h : ∀ v' w', w'.ownsRow B 53 2 v' (t ++ s).length (cellsT (t ++ s)) → w.grownBy w' v.ownBlock → wpList Tryz.prog ops Q rest (a.put o.dst v') w') : wpList Tryz.prog ops Q (o :: rest) a w := by
  obtain ⟨i0, hi, hz0, hz1, hz2⟩ := info_parts info_blk
  subst hm
  cases af with
  | none =>
    obtain ⟨rfl, rfl⟩ := hsn rfl
    refine wpList_append_own_none hgd sp x 22 ho B 53 i0 2 Tryz.underlying22 hi v t.length _ hs hrow (by rw [hx]; rfl) ?_
    exact h v w (by simpa using hrow) (World.grownBy.refl _ _)
  | some ad =>
    refine wpList_append_own _ hgd sp x 22 ho B 53 i0 (.agg #[.bool false, .slice none 0 0]) 2 32 Tryz.underlying22 hi hz0 hz1 hz2 rfl (by decide) v t.length _ hs hrow ad s.length cap (cellsT s) hx (cellsT_len s) (fun j u hj => by
      obtain ⟨g1, g2⟩ := hsc ad rfl j u hj
      have hbk : (ad.add j).block = ad.block := by unfold Addr.add; split <;> rfl
      rw [hb0.cell (p := ad.add j) (by rw [hbk]; exact g1)]
      exact g2) (cells_one hsi) (by unfold maxLen; omega) (by omega) hB fun v' w' h2 h3 _ => h v' w' ?_ h3
    rw [List.length_append, cellsT_app]
    exact h2

end Go.Proofs.YtmiijgjpkkmoaaaGreat

/- slices.Concat over blocks. -/
namespace Go.Proofs.YtmiijgjpkkmoaaaGreat
open Go.RowKit
set_option linter.unusedVariables false
set_option linter.unusedSimpArgs false

def totP (ps : List (List Blk)) : Nat := (ps.map List.length).sum
theorem totP_take {ps : List (List Blk)} {k : Nat} (h : k < ps.length) : totP (ps.take (k + 1)) = totP (ps.take k) + (ps.getD k []).length := by
  unfold totP
  rw [List.take_succ_eq_append_getElem h, List.map_append, List.sum_append]
  simp only [List.map_cons, List.map_nil, List.sum_cons, List.sum_nil, List.getD, List.getElem?_eq_getElem h, Option.getD_some, Nat.add_zero]
theorem totP_le (ps : List (List Blk)) (k : Nat) : totP (ps.take k) ≤ totP ps := by
  unfold totP
  conv => rhs; rw [← List.take_append_drop k ps, List.map_append, List.sum_append]
  omega
theorem flat_takeP {ps : List (List Blk)} {k : Nat} (h : k < ps.length) : (ps.take (k + 1)).flatten = (ps.take k).flatten ++ ps.getD k [] := by
  rw [List.take_succ_eq_append_getElem h, List.flatten_append]
  simp only [List.flatten_cons, List.flatten_nil, List.append_nil, List.getD, List.getElem?_eq_getElem h, Option.getD_some]
theorem totP_flat (ps : List (List Blk)) : ps.flatten.length = totP ps := by unfold totP; rw [List.length_flatten]
theorem sum_wrap {si : Int} {n : Nat} (h0 : 0 ≤ si) (h1 : si + (n : Int) ≤ 1000000) : wrap64 (si + (n : Int)) = si + (n : Int) := wrap64s (by omega) (by omega)

set_option maxRecDepth 100000 in
set_option maxHeartbeats 3200000 in
theorem concat_any (gs cs : Nat) (vs : List Value) (ps : List (List Blk)) (w : World) (hgs : gs < w.heap.size) (hcell : ∀ j, j < ps.length → w.cell? ⟨gs, j, none⟩ = some (vs.getD j (.slice none 0 0)))
    (hbl : ∀ j, j < ps.length → IsBlocks w (vs.getD j (.slice none 0 0)) (ps.getD j [])) (h0 : 0 < totP ps) (hn : totP ps ≤ 1000000) (hm : ps.length ≤ 1000000) :
    Calls Tryz.prog 66 #[.slice (some ⟨gs, 0, none⟩) ps.length cs] w fun e w' => ∃ v t, e = .returned v ∧ RowB w w' w.heap.size v t ∧ shapeT t = ps.flatten := by
  have HC := Lib.hid hcell
  have HBL := Lib.hid hbl
  have HT0 := Lib.hid h0
  have HTN := Lib.hid hn
  clear hcell hbl h0 hn
  go_enter Tryz.func66, Tryz.ntmps66
  go_wp2
  go_loop [3, 11] (fun sz i => ∃ (k : Nat) (si : Int), k ≤ ps.length ∧ i = .int .i64 k ∧ sz = .int .i64 si ∧ si = (totP (ps.take k) : Int)) (fun _ i => ps.length - (intOf i).toNat)
  case atStart => exact ⟨0, 0, Nat.zero_le _, rfl, rfl, by simp [totP]⟩
  case round =>
    obtain ⟨k, si, hk, rfl, rfl, hsi⟩ := hrel
    have HSI := Lib.hid hsi
    by_cases hlt : k < ps.length
    · have hcx := HC.out k hlt
      obtain ⟨a1, c1, e1, _⟩ := (HBL.out k hlt).shape
      rw [e1] at hcx
      have HTT := Lib.hid (totP_take hlt)
      have HTL := Lib.hid (totP_le ps (k + 1))
      generalize (ps.getD k []).length = n1 at *
      have hs0 : 0 ≤ si := by omega
      have hs1 : si + (n1 : Int) ≤ 1000000 := by have h1 := HTT.out; have h2 := HTL.out; have h3 := HTN.out; have h4 := HSI.out; omega
      have hw1 := sum_wrap hs0 hs1
      have hd0 : decide (si + (n1 : Int) < 0) = false := by rw [decide_eq_false_iff_not]; omega
      clear hsi
      go_wp2
      go_round
      case rel => exact ⟨k + 1, si + (n1 : Int), by omega, by go_num, rfl, by have h1 := HTT.out; have h4 := HSI.out; omega⟩
      case measure => simp [intOf]; omega
    · have hke : k = ps.length := by omega
      subst hke
      rw [List.take_length] at HSI
      have hs2 := HSI.out
      subst hs2
      have HG := Lib.hid (grow_any (totP ps) w HT0.out HTN.out)
      clear hsi HSI
      go_wp2_with (go_at_call 83; refine HG.out.mono ?_; rintro e w1 ⟨cap, rfl, hr1⟩)
      have HR1 := Lib.hid hr1
      clear hr1
      go_loopw [6, 27] (fun out i wr => ∃ (k : Nat) (t : List Trp), k ≤ ps.length ∧ i = .int .i64 k ∧ RowB w wr w.heap.size out t ∧ shapeT t = (ps.take k).flatten) (fun _ i _ => ps.length - (intOf i).toNat)
      case atStart => exact ⟨0, [], Nat.zero_le _, rfl, HR1.out, rfl⟩
      case round =>
        obtain ⟨k, t, hk, rfl, hrow, hsh⟩ := hrel
        have HRW := Lib.hid hrow
        have HSH := Lib.hid hsh
        obtain ⟨oa, oc, rfl⟩ := hrow.shape
        have hszr := hrow.below.size
        by_cases hlt : k < ps.length
        · have hcx := (hrow.below.cell (p := ⟨gs, k, none⟩) hgs).trans (HC.out k hlt)
          obtain ⟨a1, c1, e1, _⟩ := (HBL.out k hlt).shape
          have hb1 := HBL.out k hlt
          rw [e1] at hcx hb1
          obtain ⟨s, hs1, hs2, hs3, hs4, hs5⟩ := blk_vals hb1
          have hcn : a1 = none → s = [] ∧ c1 = 0 := fun e => by
            refine ⟨hs5 e, ?_⟩
            obtain ⟨a', cap', e', hcp, _⟩ := hb1
            injection e' with e1 _ e3
            subst e1; subst e3
            exact hcp.2 e
          have HFT : Hid (shapeT (t ++ s) = (ps.take (k + 1)).flatten) := by show _ = _; rw [shapeT_app, HSH.out, hs1, flat_takeP hlt]
          have hsl : (ps.getD k []).length = s.length := by rw [← hs1, shapeT_len]
          have hbd : t.length + s.length ≤ 1000000 := by
            have h1 := congrArg List.length HFT.out
            rw [shapeT_len, List.length_append, totP_flat] at h1
            have h2 := totP_le ps (k + 1)
            have h3 := HTN.out
            omega
          have HS3 := Lib.hid hs3
          have HS4 := Lib.hid hs4
          have HCN := Lib.hid hcn
          have HBD := Lib.hid hbd
          obtain ⟨m1, hm1⟩ : ∃ m, (ps.getD k []).length = m := ⟨_, rfl⟩
          rw [hm1] at hcx hsl
          have HSL := Lib.hid hsl
          clear hm1
          clear hrow hsh hs1 hs2 hs3 hs4 hs5 hcn hbd hsl hb1
          go_wp2_with (at_builtin; go_loud (refine wpList_appBs (w0 := w) rfl (.tmp 31) (.tmp 32) rfl w.heap.size (.slice oa t.length oc) t s a1 _ c1 rfl rfl HRW.out.row HRW.out.below HSL.out HS3.out HS4.out HCN.out HBD.out hszr ?_; intro v4 w4 hrow4 hg4; have HR4 := Lib.hid hrow4; have HG4 := Lib.hid hg4; clear hrow4 hg4))
          have HRN := Lib.hid (RowB.more HRW.out hszr (Below.refl _ _) (fun x hx => .inr (HS3.out x hx)) HR4.out HG4.out)
          go_roundw
          case rel => exact ⟨k + 1, _, by omega, by go_num, HRN.out, HFT.out⟩
          case measure => simp [intOf]; omega
        · have hke : k = ps.length := by omega
          subst hke
          rw [List.take_length] at HSH
          clear hrow hsh
          go_wp2
          go_ret
          exact ⟨_, t, rfl, HRW.out, HSH.out⟩

end Go.Proofs.YtmiijgjpkkmoaaaGreat

/- slices.Clone of a Dqbf's rows, and the rows sorted by the length of their lists. -/
namespace Go.Proofs.YtmiijgjpkkmoaaaGreat
open Go.RowKit Go.Shelf Go.Lib Go.Sort
set_option linter.unusedVariables false
set_option linter.unusedSimpArgs false

def cellsD (s : List DepV) : List Value := s.flatMap encD
theorem cellsD_len (s : List DepV) : (cellsD s).length = s.length * 2 := by
  induction s with
  | nil => rfl
  | cons x r ih =>
    show (encD x ++ cellsD r).length = _
    rw [List.length_append, ih]
    simp [encD]
    omega
theorem cellsD_at : ∀ (s : List DepV) (t : Nat), t < s.length * 2 → (cellsD s)[t]? = some ((encD (s.getD (t / 2) default))[t % 2]!)
  | [], t, h => by simp at h
  | x :: r, 0, h => rfl
  | x :: r, 1, h => rfl
  | x :: r, t + 2, h => by
    have ih := cellsD_at r t (by simp only [List.length_cons] at h; omega)
    show (encD x ++ cellsD r)[t + 2]? = _
    rw [List.getElem?_append_right (by simp [encD])]
    have h2 : (t + 2) / 2 = t / 2 + 1 := by omega
    have h3 : (t + 2) % 2 = t % 2 := by omega
    rw [h2, h3]
    simpa [encD] using ih
theorem holds_own {w : World} {B g n cap : Nat} {T : TypeId} {s : List DepV} (h : w.ownsRow B T 2 (.slice (some ⟨g, 0, none⟩) n cap) n (cellsD s)) : HoldsK encD 2 w g 0 s.toArray ∧ B ≤ g ∧ g < w.heap.size ∧ n = s.length := by
  obtain ⟨hl, h | ⟨g', cap', cur, hv, hB, hg, hnc, hcm, hcs, htk⟩⟩ := h
  · cases h.1
  · injection hv with h1 _ _
    injection h1 with h1
    injection h1 with h1 _ _
    subst h1
    have hn : n = s.length := by rw [cellsD_len] at hl; omega
    refine ⟨fun j hj => ?_, hB, (Array.getElem?_eq_some_iff.1 hg).1, hn⟩
    rw [size_flatK] at hj
    have hj2 : j < s.length * 2 := by simpa using hj
    have h4 := cellsD_at s j hj2
    rw [get_flatK encD 2 s.toArray j hj]
    have h5 : (s.toArray)[j / 2]! = s.getD (j / 2) default := by
      have : j / 2 < s.length := by omega
      simp [this, List.getD]
    rw [h5]
    have h6 : cur[0 + j]? = some ((encD (s.getD (j / 2) default))[j % 2]!) := by
      rw [Nat.zero_add, ← Array.getElem?_toList, ← h4, ← htk, List.getElem?_take, if_pos (by omega)]
    refine ⟨?_, ?_⟩
    · simp only [World.cell?, hg]
      simpa using h6
    · simp [World.frozen?, hg]
theorem dep_vals {w : World} {a : Option Addr} {n cap : Nat} {q : List (Int × List Int)} (H : IsDeps w (.slice a n cap) q) : ∃ s : List DepV, s.map (fun x => (x.v, x.l)) = q ∧ n = q.length ∧ (∀ x ∈ s, IsInts w (.slice x.a x.l.length x.c) x.l) ∧ (∀ ad, a = some ad → ∀ j u, (cellsD s)[j]? = some u → ad.block < w.heap.size ∧ w.cell? (ad.add j) = some u) ∧ (a = none → s = []) := by
  obtain ⟨a', cap', e, hcp, _, hl, b, off, ha, hc⟩ := H
  injection e with e1 e2 e3
  subst e1; subst e3
  have hex : ∀ k, k ≤ q.length → ∃ s : List DepV, s.map (fun x => (x.v, x.l)) = q.take k ∧ (∀ x ∈ s, IsInts w (.slice x.a x.l.length x.c) x.l) ∧ (∀ j u, (cellsD s)[j]? = some u → w.cell? ⟨b, off + j, none⟩ = some u) := by
    intro k
    induction k with
    | zero => exact fun _ => ⟨[], by simp, by simp, fun j u h => by simp [cellsD] at h⟩
    | succ k ih =>
      intro hk
      obtain ⟨s, h1, h2, h3⟩ := ih (by omega)
      obtain ⟨g1, u, g2, g3⟩ := hc k (by omega)
      have hlen : s.length = k := by
        have := congrArg List.length h1
        simp at this
        omega
      obtain ⟨ua, uc, rfl, _⟩ := g3.shape
      refine ⟨s ++ [⟨(q.getD k (0, [])).1, ua, uc, (q.getD k (0, [])).2⟩], ?_, ?_, ?_⟩
      · rw [List.map_append, h1, take_two (d := ((0 : Int), ([] : List Int))) (by omega : k < q.length)]
        rfl
      · intro x hx
        rcases List.mem_append.1 hx with hx | hx
        · exact h2 x hx
        · rw [List.mem_singleton] at hx
          subst hx
          exact g3
      · intro j v hj
        have hcd : cellsD (s ++ [⟨(q.getD k (0, [])).1, ua, uc, (q.getD k (0, [])).2⟩]) = cellsD s ++ [.int .i64 (q.getD k (0, [])).1, .slice ua (q.getD k (0, [])).2.length uc] := by
          unfold cellsD
          rw [List.flatMap_append]
          rfl
        rw [hcd] at hj
        by_cases hjs : j < (cellsD s).length
        · rw [List.getElem?_append_left hjs] at hj
          exact h3 j v hj
        · rw [List.getElem?_append_right (by omega)] at hj
          have hl2 := cellsD_len s
          rw [hlen] at hl2
          have hj2 : j - (cellsD s).length < 2 := by
            have := (List.getElem?_eq_some_iff.1 hj).1
            simpa using this
          rcases (by omega : j - (cellsD s).length = 0 ∨ j - (cellsD s).length = 1) with h0 | h0
          · rw [h0] at hj
            simp at hj
            subst hj
            have : off + j = off + k * 2 := by omega
            rw [this]
            exact g1
          · rw [h0] at hj
            simp at hj
            subst hj
            have : off + j = off + k * 2 + 1 := by omega
            rw [this]
            exact g2
  obtain ⟨s, h1, h2, h3⟩ := hex q.length (Nat.le_refl _)
  rw [List.take_length] at h1
  refine ⟨s, h1, e2, h2, fun ad had j u hj => ?_, fun hn => ?_⟩
  · have hne : q ≠ [] := by
      intro e
      rw [e] at h1
      have : s = [] := List.map_eq_nil_iff.1 h1
      subst this
      simp [cellsD] at hj
    obtain ⟨g1, g2⟩ := ha hne
    rw [had] at g1
    injection g1 with g1
    subst g1
    refine ⟨g2, ?_⟩
    have := h3 j u hj
    unfold Addr.add
    split
    · rename_i h0
      subst h0
      simpa using this
    · exact this
  · by_cases hne : q = []
    · rw [hne] at h1
      exact List.map_eq_nil_iff.1 h1
    · have := (ha hne).1
      rw [hn] at this
      cases this

theorem add_block (ad : Addr) (j : Nat) : (ad.add j).block = ad.block := by unfold Addr.add; split <;> rfl
theorem info_dep : (Tryz.prog.info? 51).map (fun i => (i.zero, i.size, i.bytes)) = some (some (.agg #[.int .i64 0, .slice none 0 0]), 2, 32) := by kernel_rfl
theorem cellsD_one (s : List DepV) : ∀ u ∈ cellsD s, u.oneCell' = true := fun u hu => by
  unfold cellsD at hu
  obtain ⟨x, _, hu⟩ := List.mem_flatMap.1 hu
  simp only [encD, List.mem_cons, List.not_mem_nil, or_false] at hu
  rcases hu with rfl | rfl <;> rfl

set_option maxRecDepth 100000 in
/-- slices.Clone of rows. -/
theorem cloned_any (ad : Addr) (cap : Nat) (s : List DepV) (w : World) (h0 : 0 < s.length) (hn : s.length ≤ 1000000) (hc : ∀ j u, (cellsD s)[j]? = some u → ad.block < w.heap.size ∧ w.cell? (ad.add j) = some u) :
    Calls Tryz.prog 40 #[.slice (some ad) s.length cap] w fun e w' => ∃ g cap', e = .returned (.slice (some ⟨g, 0, none⟩) s.length cap') ∧ HoldsK encD 2 w' g 0 s.toArray ∧ w.heap.size ≤ g ∧ g < w'.heap.size ∧ Below w.heap.size w w' := by
  have HC := Lib.hid hc
  have HN := Lib.hid hn
  have H0 := Lib.hid h0
  clear hc hn h0
  go_enter Tryz.func40, Tryz.ntmps40
  have heq : ∀ W, (binOp .eql 27 (.slice (some ad) s.length cap) (.slice none 0 0)).run Tryz.prog W = .ok (.bool false) W := fun W => by rfl
  obtain ⟨i0, hi, hz0, hz1, hz2⟩ := info_parts info_dep
  have hrow : (w.alloc (.cells #[] 51)).ownsRow w.heap.size 51 2 (.slice (some ⟨w.heap.size, 0, none⟩) 0 0) 0 [] := ⟨rfl, .inr ⟨w.heap.size, 0, #[], rfl, Nat.le_refl _, World.alloc_heap_new w _, Nat.le_refl _, Nat.zero_le _, rfl, rfl⟩⟩
  go_wp2_with (at_builtin; go_loud (refine wpList_append_own _ rfl (.tmp 5) (.tmp 6) 27 rfl w.heap.size 51 i0 (.agg #[.int .i64 0, .slice none 0 0]) 2 32 Tryz.underlying27 hi hz0 hz1 hz2 rfl (by decide) (.slice (some ⟨w.heap.size, 0, none⟩) 0 0) 0 [] rfl hrow ad s.length cap (cellsD s) rfl (cellsD_len s) (fun j u hj => (((Below.refl w.heap.size w).alloc (Nat.le_refl _) _).cell (p := ad.add j) (Nat.lt_of_le_of_lt (Nat.le_of_eq (add_block ad j)) (HC.out j u hj).1)).trans (HC.out j u hj).2) (cellsD_one s) (by unfold maxLen; have := HN.out; omega) (by have := HN.out; omega) (by simp) ?_; intro v4 w4 hrow4 hg4 hnn))
  go_ret
  rw [Nat.zero_add, List.nil_append] at hrow4
  have hb4 : Below w.heap.size w w4 := ((Below.refl w.heap.size w).alloc (Nat.le_refl _) _).grown hg4 (by simp) (fun g hg => by
    have : w.heap.size = g := by simpa [Value.ownBlock] using hg
    omega)
  obtain ⟨hl4, ⟨rfl, h4⟩ | ⟨g, cap4, cur, rfl, hrest⟩⟩ := hrow4
  · have := H0.out; omega
  · obtain ⟨q1, q2, q3, _⟩ := holds_own (s := s) ⟨hl4, .inr ⟨g, cap4, cur, rfl, hrest⟩⟩
    exact ⟨g, cap4, rfl, q1, q2, q3, hb4⟩

end Go.Proofs.YtmiijgjpkkmoaaaGreat
