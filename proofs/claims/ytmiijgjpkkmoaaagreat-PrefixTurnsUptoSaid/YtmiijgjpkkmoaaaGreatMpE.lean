/- Joined texts: PxOcc, PxMayOf, PxMays, PxChosen, PxVarIt. -/
import Derived.RangeFuncNested
import Derived.RangeFuncBound
import Derived.RangeFuncCalls
import Derived.RangeFuncLeaves
import Derived.RangeFuncBox
import Derived.Shelf.Abstract
import Derived.Shelf.RegionOpen
import Derived.OwnWalkIn
import Derived.TacticsInMore
import Derived.LoopNIn
import Derived.LoopIn
import Derived.Test.YtmiijgjpkkmoaaaGreatMpD
import Derived.Test.YtmiijgjpkkmoaaaGreatMpC
/- prefix.occurring: an iterator over the variables of the literals of clauses, in order. -/
namespace Go.Proofs.YtmiijgjpkkmoaaaGreat
open Go.RowKit Go.Shelf
set_option linter.unusedVariables false
set_option linter.unusedSimpArgs false
attribute [local go_sem] Oper.semAt_some

/-- A variable. -/
abbrev V16 : Type := { x : Int // 1 ≤ x ∧ x ≤ 65536 }
abbrev encV (x : V16) : Array Value := #[.int .i64 x.1]
/-- The variables of all literals, one behind the other. -/
def occL (f : List (List Int)) : List Int := f.flatten.map absOf
theorem occL_take {f : List (List Int)} {k : Nat} (h : k < f.length) : occL (f.take (k + 1)) = occL (f.take k) ++ (f.getD k []).map absOf := by
  unfold occL
  rw [rows_take_succ h]
  simp
theorem occL_prefix {f : List (List Int)} {k : Nat} (h : k < f.length) (t : Nat) : occL (f.take k) ++ ((f.getD k []).take t).map absOf <+: occL f := by
  have h1 : occL (f.take (k + 1)) ++ occL (f.drop (k + 1)) = occL f := by
    unfold occL
    rw [← List.map_append, ← List.flatten_append, List.take_append_drop]
  rw [← h1, occL_take h, List.append_assoc]
  refine List.prefix_append_right_inj _ |>.2 ?_
  refine List.IsPrefix.trans ?_ (List.prefix_append _ _)
  exact (List.take_prefix _ _).map absOf


set_option maxRecDepth 100000 in
set_option maxHeartbeats 2000000 in
theorem occ1_in (n : Nat) (hn : 1 ≤ n) (l Bn : Nat) (w0 : World) (vf : Value) (f : List (List Int)) (H : IsRows w0 vf f) (hf : ∀ c ∈ f, ∀ x ∈ c, litB x = true) (J Jx : List V16 → World → Prop)
    (hY : ∀ pre x W, J pre W → pre.length < (occL f).length → YieldAt Fence.wide (n - 1) Tryz.prog l (encV x) W fun e W' =>
      (e = .returned (.bool true) ∧ J (pre ++ [x]) W' ∧ Below w0.heap.size W W') ∨ (e = .returned (.bool false) ∧ Jx (pre ++ [x]) W'))
    (W : World) (hW : Below w0.heap.size w0 W) (hBn : W.cell? ⟨Bn, 0, none⟩ = some vf) (h0 : J [] W) :
    CallsIn Fence.wide n Tryz.prog 105 #[.func (.yield l) #[] #[], .pointer (some ⟨Bn, 0, none⟩)] W fun e W' => (∃ v, e = .returned v) ∧
      ((∃ ys : List V16, ys.map (fun x => x.1) = occL f ∧ J ys W') ∨ (∃ pre : List V16, pre.map (fun x => x.1) <+: occL f ∧ Jx pre W')) := by
  obtain ⟨a, cap, rfl, hlf⟩ := H.shape
  have HH := Lib.hid H
  have HY := Lib.hid hY
  have HF := Lib.hid hf
  have HJ0 := Lib.hid h0
  have HW := Lib.hid hW
  have h152 : Fence.wide.fn 79 := trivial
  clear H hY hf h0 hW
  refine callsIn_of_wp Tryz.func105 rfl trivial ?_ rfl
  simp only [Tryz.ntmps105, List.size_toArray, List.length_cons, List.length_nil, Nat.reduceAdd, Nat.reduceSub, Array.replicate_succ, Array.replicate_zero, List.push_toArray, List.append_toArray, List.nil_append, List.cons_append]
  gi_wp2
  gi_loopw [9] (fun i wr => ∃ (k : Nat) (pre : List V16), k ≤ f.length ∧ i = .int .i64 k ∧ pre.map (fun x => x.1) = occL (f.take k) ∧ J pre wr ∧ Below w0.heap.size w0 wr) (fun i _ => f.length - (intOf i).toNat)
  case atStart => exact ⟨0, [], Nat.zero_le _, rfl, by simp [occL], HJ0.out, HW.out⟩
  case round =>
    obtain ⟨k, pre, hk, rfl, hpre, hJs, hbel⟩ := hrel
    have HPRE := Lib.hid hpre
    have HJS := Lib.hid hJs
    have HB := Lib.hid hbel
    clear hpre hJs hbel
    by_cases hlt : k < f.length
    · obtain ⟨b, off, u, rfl, hb, hcx0, HU⟩ := HH.out.at hlt
      have hcx := (HB.out.cell (p := ⟨b, off + k, none⟩) hb).trans hcx0
      have HFT := Lib.hid (occL_take hlt)
      have HPF := Lib.hid (fun t => occL_prefix hlt t)
      have HFM := Lib.hid (HF.out _ (rows_getD_mem hlt))
      clear hcx0
      generalize f.getD k [] = y at *
      obtain ⟨ua, uc, eu, _, _, hyl, h64, bu, ou, hau, hcu⟩ := HU
      subst eu
      have HAU := Lib.hid hau
      have HCU := Lib.hid hcu
      clear hau hcu h64
      have hst0 : pre.map (fun x : V16 => x.1) = occL (f.take k) ++ (y.take 0).map absOf := by simpa using HPRE.out
      have HST0 := Lib.hid hst0
      clear hst0
      generalize wr = wq at *
      gi_wp2
      gi_loopw [15] (fun i wr => ∃ (t : Nat) (pre : List V16), t ≤ y.length ∧ i = .int .i64 t ∧ pre.map (fun x => x.1) = occL (f.take k) ++ (y.take t).map absOf ∧ J pre wr ∧ Below w0.heap.size w0 wr) (fun i _ => y.length - (intOf i).toNat)
      case atStart => exact ⟨0, pre, Nat.zero_le _, rfl, HST0.out, HJS.out, HB.out⟩
      case round =>
        obtain ⟨t, pre2, ht, rfl, hpre, hJs, hbel⟩ := hrel
        have HPRE2 := Lib.hid hpre
        have HJS2 := Lib.hid hJs
        have HB2 := Lib.hid hbel
        clear hpre hJs hbel
        by_cases hlt2 : t < y.length
        · obtain ⟨rfl, hbu⟩ := HAU.out (by intro h; simp [h] at hlt2)
          have hcv := (HB2.out.cell (p := ⟨bu, ou + t, none⟩) hbu).trans (HCU.out t hlt2)
          have HTK0 := ints_take_succ hlt2
          have HTK : Hid ((y.take (t + 1)).map absOf = (y.take t).map absOf ++ [absOf (y.getD t 0)]) := by show _ = _; rw [HTK0, List.map_append]; rfl
          clear HTK0
          have hlit := HFM.out _ (ints_getD_mem hlt2)
          have hlen : pre2.length < (occL f).length := by
            have h1 := (HPF.out (t + 1)).length_le
            have h2 := congrArg List.length HPRE2.out
            rw [HTK.out] at h1
            simp only [List.length_append, List.length_map, List.map_cons, List.map_nil, List.length_cons, List.length_nil] at h1 h2
            omega
          generalize y.getD t 0 = x at *
          have hx : 1 ≤ absOf x ∧ absOf x ≤ 65536 := by
            unfold litB at hlit
            rw [decide_eq_true_eq] at hlit
            unfold absOf
            split <;> omega
          have hx64 : -9223372036854775808 ≤ x ∧ x ≤ 9223372036854775807 := by
            unfold litB at hlit
            rw [decide_eq_true_eq] at hlit
            omega
          obtain ⟨fn, tmps, assign, body, hy, hR⟩ := HY.out pre2 ⟨absOf x, hx⟩ wr HJS2.out hlen
          dsimp only [encV] at hy
          have HR := Lib.hid hR
          have hwr : IntKind.i64.wrap (absOf x) = absOf x := by simp only [IntKind.wrap_i64]; omega
          have HMG := Lib.hid (magnitude_any x wr hx64.1 hx64.2)
          clear hlit hR hx64
          generalize absOf x = ax at *
          gi_wp2_with (gi_at_call 79; refine (callsIn_wide.2 HMG.out).mono ?_; rintro e w1 ⟨rfl, rfl⟩)
          refine HR.out.mono ?_
          rintro e W3 (⟨rfl, hJ3, hk3⟩ | ⟨rfl, hJx3⟩)
          · gi_wp2
            go_roundw
            case rel => exact ⟨t + 1, _, by omega, by go_num, by rw [List.map_append, HPRE2.out, HTK.out, List.append_assoc]; rfl, hJ3, HB2.out.trans hk3⟩
            case measure => simp [intOf]; omega
          · gi_wp2
            refine bodyPost_ret (results_none rfl _ _ _) rfl ?_
            exact ⟨⟨_, rfl⟩, .inr ⟨_, by have := HPF.out (t + 1); rw [HTK.out, ← List.append_assoc, ← HPRE2.out] at this; rw [List.map_append]; exact this, hJx3⟩⟩
        · have hte : t = y.length := by omega
          subst hte
          gi_wp2
          go_roundw
          case rel => exact ⟨k + 1, pre2, by omega, by go_num, by rw [HFT.out]; simpa using HPRE2.out, HJS2.out, HB2.out⟩
          case measure => simp [intOf]; omega
    · have hke : k = f.length := by omega
      subst hke
      gi_wp2
      go_end0
      exact ⟨⟨_, rfl⟩, .inl ⟨pre, by simpa using HPRE.out, HJS.out⟩⟩

theorem occ_in (n : Nat) (a : Option Addr) (k cap : Nat) (w : World) : CallsIn Fence.wide n Tryz.prog 82 #[.slice a k cap] w fun e w' => e = .returned (.func (.func 105) #[] #[.pointer (some ⟨w.heap.size, 0, none⟩)]) ∧ w' = w.alloc (.cells #[.slice a k cap] 23) := by
  refine callsIn_of_wp Tryz.func82 rfl trivial ?_ rfl
  simp only [Tryz.ntmps82, List.size_toArray, List.length_cons, List.length_nil, Nat.reduceAdd, Nat.reduceSub, Array.replicate_succ, Array.replicate_zero, List.push_toArray, List.append_toArray, List.nil_append, List.cons_append]
  gi_wp2
  go_ret
  exact ⟨rfl, rfl⟩

theorem occ_stops (n : Nat) (hn : 1 ≤ n) (Bn : Nat) (w0 w : World) (vf : Value) (f : List (List Int)) (H : IsRows w0 vf f) (hf : ∀ c ∈ f, ∀ x ∈ c, litB x = true) (hW : Below w0.heap.size w0 w) (hB : Bn < w.heap.size) (hc : w.cell? ⟨Bn, 0, none⟩ = some vf) :
    SeqStopsK Fence.wide n Tryz.prog 105 #[.pointer (some ⟨Bn, 0, none⟩)] encV (Below w0.heap.size) (fun ys => ys.map (fun x => x.1) = occL f) (fun pre => pre.map (fun x => x.1) <+: occL f) (occL f).length w := fun l J Jx W hWW _ _ hY h0 =>
  occ1_in n hn l Bn w0 vf f H hf J Jx hY W (hW.trans (hWW.mono hW.size)) ((hWW.cell (p := ⟨Bn, 0, none⟩) hB).trans hc) h0

end Go.Proofs.YtmiijgjpkkmoaaaGreat

/- prefix.mayCnfOf. -/
namespace Go.Proofs.YtmiijgjpkkmoaaaGreat
open Go.RowKit Go.Shelf
set_option linter.unusedVariables false
set_option linter.unusedSimpArgs false
attribute [local go_sem] Oper.semAt_some

def ofB (f : List (List Int)) (S : List Int) : Bool := mayCnfB f && decide (∀ x ∈ occL f, x ∈ S)

theorem kept_from {S : Nat → Prop} {B : Nat} {w w' : World} (h : Kept S w w') (hS : ∀ k, B ≤ k → ¬ S k) : KeepsFrom B w w' := ⟨h.size, fun k o hB hk _ => (h.block k (Array.getElem?_eq_some_iff.1 hk).1 (hS k hB)).trans hk⟩
theorem SetI.grown {w w' : World} {row : Option Nat} {b : Nat} {S : List Int} (h : SetI w b S) (hg : w.grownBy w' row) (hne : row ≠ some b) : SetI w' b S := h.kept (Kept.of_grown hg) hne

set_option maxRecDepth 100000 in
set_option maxHeartbeats 2000000 in
theorem mayof_any (v : Value) (f : List (List Int)) (b : Nat) (S : List Int) (w : World) (H : IsRows w v f) (hs : SetI w b S) :
    Calls Tryz.prog 67 #[v, .map (some b)] w fun e w' => e = .returned (.bool (ofB f S)) ∧ Below w.heap.size w w' := by
  refine (callsIn_wide (n := 5)).1 ?_
  have HH := Lib.hid H
  have HS := Lib.hid hs
  have hlt := hs.lt
  have hq := pcnf_any v f ((w.alloc (.cells #[.map (some b)] 83)).alloc (.cells #[.bool false] 4)) ((H.below ((Below.refl _ w).alloc (Nat.le_refl _) _) (Nat.le_refl _)).below ((Below.refl _ _).alloc (Nat.le_refl _) _) (Nat.le_refl _))
  obtain ⟨a, cap, rfl, hl⟩ := H.shape
  have HF : Hid (mayCnfB f = true → ∀ c ∈ f, ∀ x ∈ c, litB x = true) := fun h => cnf_range h
  have hF99 : Fence.wide.fn 64 := trivial
  have hF145 : Fence.wide.fn 82 := trivial
  have hB0 : Below w.heap.size w ((w.alloc (.cells #[.map (some b)] 83)).alloc (.cells #[.bool false] 4)) := ((Below.refl _ w).alloc (Nat.le_refl _) _).alloc (by simp) _
  have bM := (Boxed.new w 83 (.map (some b))).alloc (.cells #[.bool false] 4)
  have bR := Boxed.new (w.alloc (.cells #[.map (some b)] 83)) 4 (.bool false)
  rw [World.size_alloc] at bR
  have HB0 := Lib.hid hB0
  have HBM := Lib.hid bM
  have HBR := Lib.hid bR
  have hcr := bR.cell
  have hfr := bR.frozen
  clear H hs hB0 bM bR
  have hsz0 : ((w.alloc (.cells #[.map (some b)] 83)).alloc (.cells #[.bool false] 4)).heap.size = w.heap.size + 2 := by simp
  cases hm : mayCnfB f with
  | false =>
    have HR : Hid (ofB f S = false) := by show _ = _; unfold ofB; rw [hm]; rfl
    rw [hm] at hq
    have HQ := Lib.hid hq
    clear hq hm
    refine callsIn_of_wp_marks Tryz.func67 rfl trivial ?_ rfl
    simp only [Tryz.ntmps67, List.size_toArray, List.length_cons, List.length_nil, Nat.reduceAdd, Nat.reduceSub, Array.replicate_succ, Array.replicate_zero, List.push_toArray, List.append_toArray, List.nil_append, List.cons_append]
    gi_wp2_with (gi_at_call 64; refine (callsIn_wide.2 HQ.out).mono ?_; rintro e w1 ⟨rfl, rfl⟩)
    exact ⟨.bool false, by simp [results, Tryz.f67, go_sem, hcr], by rw [HR.out], HB0.out⟩
  | true =>
    have HF2 := Lib.hid (HF.out hm)
    have HR : Hid (ofB f S = decide (∀ x ∈ occL f, x ∈ S)) := by show _ = _; unfold ofB; rw [hm]; rfl
    rw [hm] at hq
    have HQ := Lib.hid hq
    clear hq hm HF
    refine callsIn_of_wp_marks Tryz.func67 rfl trivial ?_ rfl
    simp only [Tryz.ntmps67, List.size_toArray, List.length_cons, List.length_nil, Nat.reduceAdd, Nat.reduceSub, Array.replicate_succ, Array.replicate_zero, List.push_toArray, List.append_toArray, List.nil_append, List.cons_append]
    gi_wp2_with (first
      | (gi_at_call 64; refine (callsIn_wide.2 HQ.out).mono ?_; rintro e w1 ⟨rfl, rfl⟩)
      | (gi_at_call 82; refine (occ_in _ _ _ _ _).mono ?_; rintro e w1 ⟨rfl, rfl⟩))
    generalize hw0 : ((w.alloc (.cells #[.map (some b)] 83)).alloc (.cells #[.bool false] 4)) = w0 at HB0 HBM HBR HQ hcr hfr hsz0 ⊢
    have bF := Boxed.new w0 23 (.slice a f.length cap)
    rw [hsz0] at bF
    have HB1 := Lib.hid (HB0.out.trans (((Below.refl _ w0).alloc (Nat.le_refl _) (.cells #[.slice a f.length cap] 23)).mono (by rw [hsz0]; omega) : Below w.heap.size w0 (w0.alloc (.cells #[.slice a f.length cap] 23))))
    refine wpIn_rangeFunc_ownF rfl (by omega) (gf := 105) (lb := #[.pointer (some ⟨w.heap.size + 2, 0, none⟩)]) rfl trivial (enters_of Tryz.func105 (by kernel_rfl) rfl)
      (occ_stops 4 (by omega) (w.heap.size + 2) w (w0.alloc (.cells #[.slice a f.length cap] 23)) _ f HH.out HF2.out HB1.out (by simp [hsz0]) bF.cell) belowK_t (belowK_b (by simp [hsz0]; omega)) (Below.refl _ _) (fun _ => rfl)
      (fun pre W => ((∀ y ∈ pre, y.1 ∈ S) ∧ Boxed W w.heap.size 83 (.map (some b)) ∧ Boxed W (w.heap.size + 1) 4 (.bool false)) ∧ Below w.heap.size w W)
      (fun c pre W => (c = .ret ∧ (∃ y ∈ pre, y.1 ∉ S) ∧ Boxed W (w.heap.size + 1) 4 (.bool false)) ∧ Below w.heap.size w W)
      (OwnFrom.and (Go.Own.from (fun s A B row hs hg hr => ⟨hs.1, boxed_own w.heap.size 83 (fun _ : Unit => .map (some b)) () A B row hs.2.1 hg hr, boxed_own (w.heap.size + 1) 4 (fun _ : Unit => .bool false) () A B row hs.2.2 hg hr⟩) _) (ownFrom_below (Nat.le_refl _) (by simp [hsz0]; omega)))
      (fun c => OwnFrom.and (Go.Own.from (fun s A B row hs hg hr => ⟨hs.1, hs.2.1, boxed_own (w.heap.size + 1) 4 (fun _ : Unit => .bool false) () A B row hs.2.2 hg hr⟩) _) (ownFrom_below (Nat.le_refl _) (by simp [hsz0]; omega)))
      ⟨⟨by simp, HBM.out.alloc _, HBR.out.alloc _⟩, HB1.out⟩
      (fun x => { tmps := #[.slice a f.length cap, .map (some b), undef, .pointer (some ⟨w.heap.size, 0, none⟩), .pointer (some ⟨w.heap.size + 1, 0, none⟩), .int .i64 x.1, .slice a f.length cap, .bool true, .bool false, .slice a f.length cap, .func (.func 105) #[] #[.pointer (some ⟨w.heap.size + 2, 0, none⟩)], .int .i64 x.1, undef, undef, undef, undef], defers := [] }) ?assign ?body ?done ?stop
    case assign =>
      intro l x W K hK
      gi_wp2
      exact hK
    case body =>
      rintro l pre x W ⟨⟨hp, hbm, hbr⟩, hB⟩ _
      have hcm := hbm.cell
      have hcr := hbr.cell
      have hfr := hbr.frozen
      have hz : (zeroValue 4).run Tryz.prog W = .ok (.bool false) W := rfl
      have hlk := (HS.out.below hB (Nat.le_refl _)).look hz x.1 (i64w (by have := x.2; omega) (by have := x.2; omega))
      by_cases hx : x.1 ∈ S
      · have hd : decide (x.1 ∈ S) = true := by simpa using hx
        rw [hd] at hlk
        gi_wp2
        exact ⟨KeepsOthers.refl _, Below.refl _ _, ⟨fun y hy => (List.mem_append.1 hy).elim (hp y) (fun e => by simp at e; subst e; exact hx), hbm, hbr⟩, hB⟩
      · have hd : decide (x.1 ∈ S) = false := by simpa using hx
        rw [hd] at hlk
        gi_wp2
        exact ⟨KeepsOthers.setCell _ _ _, ⟨rfl, ⟨x, by simp, hx⟩, hbr.set _⟩, hB.setCell (p := ⟨w.heap.size + 1, 0, none⟩) (by simp) _⟩
    case done =>
      rintro D ys W hD hys ⟨⟨hp, hbm, hbr⟩, hB⟩ hK
      have hcr := hbr.cell
      have hfr := hbr.frozen
      gi_wp2
      have hK' := (KeepsOthers.setCell W ⟨w.heap.size + 1, 0, none⟩ (.bool true)).same D _ hK rfl
      refine ⟨by simp, .inl ⟨_, _, rfl, run_takeDeferred hK', ?_⟩⟩
      have hc5 := cell_kept (hbr.set (.bool true)).cell (grownBy_putObj' _ D (.deferred none)) (fun r e => by cases e; exact ⟨_, hK', rfl⟩)
      refine ⟨.bool true, by simp [results, Tryz.f67, go_sem, hc5], ?_, (hB.setCell (p := ⟨w.heap.size + 1, 0, none⟩) (by simp) _).trans (belowK_b (w := w) (Nat.le_refl _) _ D _ _ (by simp [hsz0] at hD; omega) hK' rfl rfl)⟩
      rw [HR.out, decide_eq_true]
      intro x hx
      rw [← hys] at hx
      obtain ⟨y, hy, rfl⟩ := List.mem_map.1 hx
      exact hp y hy
    case stop =>
      rintro D c pre W hD hpre ⟨⟨rfl, ⟨y, hy, hy2⟩, hbr⟩, hB⟩ hK
      gi_wp2
      refine ⟨by simp, .inl ⟨_, _, rfl, run_takeDeferred hK, ?_⟩⟩
      have hc5 := cell_kept hbr.cell (grownBy_putObj' _ D (.deferred none)) (fun r e => by cases e; exact ⟨_, hK, rfl⟩)
      refine ⟨.bool false, by simp [results, Tryz.f67, go_sem, hc5], ?_, hB.trans (belowK_b (w := w) (Nat.le_refl _) W D _ _ (by simp [hsz0] at hD; omega) hK rfl rfl)⟩
      rw [HR.out, decide_eq_false]
      intro h
      exact hy2 (h _ (hpre.subset (List.mem_map_of_mem hy)))

end Go.Proofs.YtmiijgjpkkmoaaaGreat

/- prefix.MayDqbf and MayQbf. -/
namespace Go.Proofs.YtmiijgjpkkmoaaaGreat
open Go.RowKit
set_option linter.unusedVariables false
set_option linter.unusedSimpArgs false

theorem ofB_iff {C : List (List Int)} {S : List Int} : ofB C S = true ↔ mayCnfB C = true ∧ withinB C S = true := by
  unfold ofB withinB occL
  simp only [Bool.and_eq_true, decide_eq_true_eq]
  refine and_congr_right fun _ => ⟨fun h c hc x hx => ?_, fun h x hx => ?_⟩
  · exact memB_iff.2 (h _ (List.mem_map_of_mem (List.mem_flatten.2 ⟨c, hc, hx⟩)))
  · obtain ⟨y, hy, rfl⟩ := List.mem_map.1 hx
    obtain ⟨c, hc, hyc⟩ := List.mem_flatten.1 hy
    exact memB_iff.1 (h c hc y hyc)
theorem mayD_yes {U : List Int} {E : List (Int × List Int)} {C : List (List Int)} (h : okD U E) : mayDB U E C = ofB C (U ++ exOf E) := by
  rw [Bool.eq_iff_iff, mayD_ok, ofB_iff]
  exact ⟨fun k => k.2, fun k => ⟨h, k⟩⟩
theorem mayD_no {U : List Int} {E : List (Int × List Int)} {C : List (List Int)} (h : ¬ okD U E) : mayDB U E C = false := by
  rw [Bool.eq_false_iff]
  exact fun k => h (mayD_ok.1 k).1

set_option maxHeartbeats 1600000 in
set_option maxRecDepth 100000 in
theorem pmayd_any (vu ve vc : Value) (U : List Int) (E : List (Int × List Int)) (C : List (List Int)) (w : World)
    (HU : IsInts w vu U) (HE : IsDeps w ve E) (HC : IsRows w vc C) (h64e : In64 (exOf E)) :
    Calls Tryz.prog 39 #[.agg #[vu, ve, vc]] w fun e w' => e = .returned (.bool (mayDB U E C)) ∧ Below w.heap.size w w' := by
  have HCC := Lib.hid HC
  have hb0 : Below w.heap.size w (w.alloc (.cells #[vu, ve, vc] 29)) := (Below.refl w.heap.size w).alloc (Nat.le_refl _) _
  have hsz : (w.alloc (.cells #[vu, ve, vc] 29)).heap.size = w.heap.size + 1 := by simp
  have D2 : (w.alloc (.cells #[vu, ve, vc] 29)).cell? ⟨w.heap.size, 2, none⟩ = some vc := cell_fresh rfl
  have hq := qrows_any vu ve vc U E C (w.alloc (.cells #[vu, ve, vc] 29)) (HU.below hb0 (Nat.le_refl _)) (HE.below hb0 (Nat.le_refl _)) (HC.below hb0 (Nat.le_refl _)) h64e
  obtain ⟨a1, c1, rfl⟩ := HU.shape
  obtain ⟨a2, c2, rfl, _⟩ := HE.shape
  obtain ⟨a3, c3, rfl, _⟩ := HC.shape
  unfold RowsPostQ at hq
  rw [hsz] at hq
  have HB0 := Lib.hid hb0
  have HD2 := Lib.hid D2
  have HSZ := Lib.hid hsz
  by_cases ho : okD U E
  · have hq2 : Calls Tryz.prog 73 #[.agg #[.slice a1 U.length c1, .slice a2 E.length c2, .slice a3 C.length c3]] (w.alloc (.cells #[.slice a1 U.length c1, .slice a2 E.length c2, .slice a3 C.length c3] 29)) fun e w' => e = .returned (.tuple #[.map (some (w.heap.size + 1 + 1)), .bool true]) ∧ SetI w' (w.heap.size + 1 + 1) (U ++ exOf E) ∧ Below (w.heap.size + 1) (w.alloc (.cells #[.slice a1 U.length c1, .slice a2 E.length c2, .slice a3 C.length c3] 29)) w' := hq.mono fun e w' h => by
      obtain ⟨h1, ⟨_, h2, h3⟩ | ⟨h2, _⟩⟩ := h
      · exact ⟨h2, h3, h1⟩
      · exact absurd ho h2
    have HQ := Lib.hid hq2
    have HR : Hid (mayDB U E C = ofB C (U ++ exOf E)) := mayD_yes ho
    clear hq hq2 HU HE HC hb0 hsz D2 ho
    have HX := Lib.hid (fun (W : World) (hb : Below (w.heap.size + 1) (w.alloc (.cells #[.slice a1 U.length c1, .slice a2 E.length c2, .slice a3 C.length c3] 29)) W) => (⟨(hb.cell (p := ⟨w.heap.size, 2, none⟩) (by simp)).trans HD2.out, HCC.out.below (HB0.out.trans (hb.mono (by omega))) (Nat.le_refl _), HB0.out.trans (hb.mono (by omega))⟩ : W.cell? ⟨w.heap.size, 2, none⟩ = some (.slice a3 C.length c3) ∧ IsRows W (.slice a3 C.length c3) C ∧ Below w.heap.size w W))
    go_enter Tryz.func39, Tryz.ntmps39
    go_wp2_with (first
      | (go_at_call 73; refine HQ.out.mono ?_; rintro e w1 ⟨rfl, hs1, hb1⟩; obtain ⟨hl1, hr1, ht1⟩ := HX.out w1 hb1; have HR1 := Lib.hid hr1; have HS1 := Lib.hid hs1; have HT1 := Lib.hid ht1; clear hr1 hs1 ht1 hb1)
      | (go_at_call 67; refine (mayof_any _ C _ _ _ HR1.out HS1.out).mono ?_; rintro e w2 ⟨rfl, hb2⟩))
    go_ret
    rw [HR.out]
    exact ⟨rfl, HT1.out.trans (hb2.mono HT1.out.size)⟩
  · have hq2 : Calls Tryz.prog 73 #[.agg #[.slice a1 U.length c1, .slice a2 E.length c2, .slice a3 C.length c3]] (w.alloc (.cells #[.slice a1 U.length c1, .slice a2 E.length c2, .slice a3 C.length c3] 29)) fun e w' => e = .returned (.tuple #[.map none, .bool false]) ∧ Below (w.heap.size + 1) (w.alloc (.cells #[.slice a1 U.length c1, .slice a2 E.length c2, .slice a3 C.length c3] 29)) w' := hq.mono fun e w' h => by
      obtain ⟨h1, ⟨h2, _, _⟩ | ⟨_, h2⟩⟩ := h
      · exact absurd h2 ho
      · exact ⟨h2, h1⟩
    have HQ := Lib.hid hq2
    have HR : Hid (mayDB U E C = false) := mayD_no ho
    clear hq hq2 HU HE HC hb0 hsz D2 ho
    go_enter Tryz.func39, Tryz.ntmps39
    go_wp2_with (go_at_call 73; refine HQ.out.mono ?_; rintro e w1 ⟨rfl, hb1⟩)
    go_ret
    rw [HR.out]
    exact ⟨rfl, HB0.out.trans (hb1.mono (by omega))⟩

def mayQB (p : List Blk) (C : List (List Int)) : Bool := mayP p && (mayCnfB C && withinB C (flatB p))
theorem mayQ_of {p : List Blk} {C : List (List Int)} (h : mayP p = true) : mayQB p C = ofB C (flatB p) := by
  rw [Bool.eq_iff_iff, ofB_iff]
  unfold mayQB
  rw [h]
  simp

set_option maxHeartbeats 1600000 in
set_option maxRecDepth 100000 in
theorem pmayq_any (vp vc : Value) (p : List Blk) (C : List (List Int)) (w : World)
    (HP : IsBlocks w vp p) (HC : IsRows w vc C) (hp : p.length ≤ 4000000) :
    Calls Tryz.prog 29 #[.agg #[vp, vc]] w fun e w' => e = .returned (.bool (mayQB p C)) ∧ Below w.heap.size w w' := by
  have HCC := Lib.hid HC
  have hb0 : Below w.heap.size w (w.alloc (.cells #[vp, vc] 25)) := (Below.refl w.heap.size w).alloc (Nat.le_refl _) _
  have hsz : (w.alloc (.cells #[vp, vc] 25)).heap.size = w.heap.size + 1 := by simp
  have D2 : (w.alloc (.cells #[vp, vc] 25)).cell? ⟨w.heap.size, 1, none⟩ = some vc := cell_fresh rfl
  have hq := quantified_any vp p (w.alloc (.cells #[vp, vc] 25)) (HP.below hb0 (Nat.le_refl _)) hp
  obtain ⟨a1, c1, rfl, _⟩ := HP.shape
  obtain ⟨a3, c3, rfl, _⟩ := HC.shape
  unfold QuantPost at hq
  rw [hsz] at hq
  have HB0 := Lib.hid hb0
  have HD2 := Lib.hid D2
  cases ho : mayP p with
  | true =>
    have hq2 : Calls Tryz.prog 55 #[.slice a1 p.length c1] (w.alloc (.cells #[.slice a1 p.length c1, .slice a3 C.length c3] 25)) fun e w' => e = .returned (.tuple #[.map (some (w.heap.size + 1)), .bool true]) ∧ SetI w' (w.heap.size + 1) (flatB p) ∧ Below (w.heap.size + 1) (w.alloc (.cells #[.slice a1 p.length c1, .slice a3 C.length c3] 25)) w' := hq.mono fun e w' h => by
      obtain ⟨h1, ⟨_, h2, h3⟩ | ⟨h2, _⟩⟩ := h
      · exact ⟨h2, h3, h1⟩
      · rw [ho] at h2; cases h2
    have HQ := Lib.hid hq2
    have HR : Hid (mayQB p C = ofB C (flatB p)) := mayQ_of ho
    clear hq hq2 HP HC hb0 hsz D2 ho
    have HX := Lib.hid (fun (W : World) (hb : Below (w.heap.size + 1) (w.alloc (.cells #[.slice a1 p.length c1, .slice a3 C.length c3] 25)) W) => (⟨(hb.cell (p := ⟨w.heap.size, 1, none⟩) (by simp)).trans HD2.out, HCC.out.below (HB0.out.trans (hb.mono (by omega))) (Nat.le_refl _), HB0.out.trans (hb.mono (by omega))⟩ : W.cell? ⟨w.heap.size, 1, none⟩ = some (.slice a3 C.length c3) ∧ IsRows W (.slice a3 C.length c3) C ∧ Below w.heap.size w W))
    go_enter Tryz.func29, Tryz.ntmps29
    go_wp2_with (first
      | (go_at_call 55; refine HQ.out.mono ?_; rintro e w1 ⟨rfl, hs1, hb1⟩; obtain ⟨hl1, hr1, ht1⟩ := HX.out w1 hb1; have HR1 := Lib.hid hr1; have HS1 := Lib.hid hs1; have HT1 := Lib.hid ht1; clear hr1 hs1 ht1 hb1)
      | (go_at_call 67; refine (mayof_any _ C _ _ _ HR1.out HS1.out).mono ?_; rintro e w2 ⟨rfl, hb2⟩))
    go_ret
    rw [HR.out]
    exact ⟨rfl, HT1.out.trans (hb2.mono HT1.out.size)⟩
  | false =>
    have hq2 : Calls Tryz.prog 55 #[.slice a1 p.length c1] (w.alloc (.cells #[.slice a1 p.length c1, .slice a3 C.length c3] 25)) fun e w' => e = .returned (.tuple #[.map none, .bool false]) ∧ Below (w.heap.size + 1) (w.alloc (.cells #[.slice a1 p.length c1, .slice a3 C.length c3] 25)) w' := hq.mono fun e w' h => by
      obtain ⟨h1, ⟨h2, _, _⟩ | ⟨_, h2⟩⟩ := h
      · rw [ho] at h2; cases h2
      · exact ⟨h2, h1⟩
    have HQ := Lib.hid hq2
    have HR : Hid (mayQB p C = false) := by show _ = _; unfold mayQB; rw [ho]; rfl
    clear hq hq2 HP HC hb0 hsz D2 ho
    go_enter Tryz.func29, Tryz.ntmps29
    go_wp2_with (go_at_call 55; refine HQ.out.mono ?_; rintro e w1 ⟨rfl, hb1⟩)
    go_ret
    rw [HR.out]
    exact ⟨rfl, HB0.out.trans (hb1.mono (by omega))⟩

end Go.Proofs.YtmiijgjpkkmoaaaGreat

/- prefix.chosen over any predicate handed over. -/
namespace Go.Proofs.YtmiijgjpkkmoaaaGreat
open Go.RowKit
set_option linter.unusedVariables false
set_option linter.unusedSimpArgs false

/-- The function that is handed over answers q of a number of the list, in whatever later world, and leaves what lay there. -/
def Picks (g : Nat) (cb : Array Value) (q : Int → Bool) (l : List Int) (w : World) : Prop :=
  ∀ W, Below w.heap.size w W → ∀ x ∈ l, Calls Tryz.prog g (#[.int .i64 x] ++ cb) W fun e w' => e = .returned (.bool (q x)) ∧ Below W.heap.size W w'

theorem filter_take {q : Int → Bool} {l : List Int} {k : Nat} (h : k < l.length) : (l.take (k + 1)).filter q = (l.take k).filter q ++ (if q (l.getD k 0) then [l.getD k 0] else []) := by
  rw [ints_take_succ h, List.filter_append]
  congr 1
  by_cases e : q (l.getD k 0) = true
  · rw [if_pos e, List.filter_cons_of_pos e]; rfl
  · rw [if_neg e, List.filter_cons_of_neg e]; rfl

set_option maxHeartbeats 1600000 in
set_option maxRecDepth 100000 in
theorem chosen_any (q : Int → Bool) (g : Nat) (cb : Array Value) (v : Value) (l : List Int) (w : World)
    (eg : ∀ args w, (callFunc g args).run Tryz.prog w = .ok (.enter g args) w) (ht : Picks g cb q l w) (H : IsInts w v l) (hl : l.length ≤ 4000000) :
    Calls Tryz.prog 58 #[v, .func (.func g) #[] cb] w (RetOwn w (l.filter q)) := by
  obtain ⟨a, cap, rfl, _, _, _, h64, b, off, ha, hc⟩ := H
  have HC := Lib.hid hc
  have HA := Lib.hid ha
  have HTE := Lib.hid ht
  clear hc ht ha
  go_enter Tryz.func58, Tryz.ntmps58
  go_wp2
  go_loopw [5, 10] (fun out i wr => ∃ k : Nat, k ≤ l.length ∧ i = .int .i64 k ∧ Own wr w.heap.size out ((l.take k).filter q) ∧ Below w.heap.size w wr) (fun _ i _ => l.length - (intOf i).toNat)
  case atStart => exact ⟨0, Nat.zero_le _, rfl, by simpa using Own.nil _ _, Below.refl _ _⟩
  case round =>
    obtain ⟨k, hk, rfl, hown, hbel⟩ := hrel
    have HO := Lib.hid hown
    have HB := Lib.hid hbel
    have hsz := hbel.size
    clear hown hbel
    by_cases hlt : k < l.length
    · obtain ⟨rfl, hb⟩ := HA.out (by intro h; simp [h] at hlt)
      have hy := (HB.out.cell (p := ⟨b, off + k, none⟩) hb).trans (HC.out k hlt)
      have hct := HTE.out _ HB.out _ (ints_getD_mem hlt)
      have HK := Lib.hid (filter_take (q := q) hlt)
      have hfl : ((l.take k).filter q).length < 17592186044416 := by
        have h1 := List.length_filter_le q (l.take k)
        rw [List.length_take] at h1
        omega
      generalize l.getD k 0 = y at *
      have HCT := Lib.hid hct
      clear hct
      cases hq : q y with
      | false =>
        rw [hq] at HCT HK
        clear hq
        go_wp2_with fail
        refine HCT.out.mono ?_
        rintro e w1 ⟨rfl, hb1⟩
        have HB1 := Lib.hid hb1
        clear hb1
        go_wp2
        go_roundw
        case rel => exact ⟨k + 1, by omega, by go_num, by rw [HK.out]; simpa using HO.out.below HB1.out (Nat.le_refl _), HB.out.trans (HB1.out.mono hsz)⟩
        case measure => simp [intOf]; omega
      | true =>
        rw [hq] at HCT HK
        clear hq
        go_wp2_with fail
        refine HCT.out.mono ?_
        rintro e w1 ⟨rfl, hb1⟩
        have HB1 := Lib.hid (HB.out.trans (hb1.mono hsz))
        have HO1 := Lib.hid (HO.out.below hb1 (Nat.le_refl _))
        have hsz1 := HB1.out.size
        clear hb1
        go_wp2_with (at_builtin; refine wpList_app1 rfl (.tmp 17) (.tmp 19) rfl w.heap.size _ _ y w1.heap.size rfl rfl (HO1.out.alloc _) (by simp) hfl (by simp; omega) ?_; intro v' w2 hown2 hg2)
        have HB2 := Lib.hid (below_app (HB1.out.alloc hsz1 _) (HO1.out.alloc _) (by simp; omega) hg2)
        have HO2 := Lib.hid hown2
        clear hown2 hg2
        go_roundw
        case rel => exact ⟨k + 1, by omega, by go_num, by rw [HK.out]; exact HO2.out, HB2.out⟩
        case measure => simp [intOf]; omega
    · have hke : k = l.length := by omega
      subst hke
      rw [List.take_length] at HO
      go_wp2
      go_ret
      exact ⟨_, rfl, HO.out, HB.out⟩

end Go.Proofs.YtmiijgjpkkmoaaaGreat

/- prefix.variables: an iterator over the numbers in blocks, each with the index of its block. -/
namespace Go.Proofs.YtmiijgjpkkmoaaaGreat
open Go.RowKit Go.Shelf
set_option linter.unusedVariables false
set_option linter.unusedSimpArgs false
attribute [local go_sem] Oper.semAt_some

/-- A number in blocks: the index of its block, and the number. -/
abbrev VI (m : Nat) : Type := { x : Nat × Int // x.1 < m ∧ -9223372036854775808 ≤ x.2 ∧ x.2 ≤ 9223372036854775807 }
abbrev encVI {m : Nat} (x : VI m) : Array Value := #[.int .i64 (x.1.1 : Int), .int .i64 x.1.2]
/-- All numbers in blocks, from the first block on, each with the index of its block. -/
def pairsUp (p : List Blk) (k : Nat) : List (Nat × Int) := (List.range k).flatMap (fun i => (p.getD i dB).2.map (fun v => (i, v)))
def pairsB (p : List Blk) : List (Nat × Int) := pairsUp p p.length
theorem pairsUp_succ (p : List Blk) (k : Nat) : pairsUp p (k + 1) = pairsUp p k ++ (p.getD k dB).2.map (fun v => (k, v)) := by
  unfold pairsUp
  rw [List.range_succ, List.flatMap_append]
  simp
theorem pairsUp_prefix {p : List Blk} {k m : Nat} (h : k ≤ m) : pairsUp p k <+: pairsUp p m := by
  induction m with
  | zero => obtain rfl : k = 0 := by omega
            exact List.prefix_refl _
  | succ m ih =>
    by_cases e : k = m + 1
    · subst e; exact List.prefix_refl _
    · rw [pairsUp_succ]
      exact (ih (by omega)).trans (List.prefix_append _ _)
theorem pairs_prefix {p : List Blk} {k : Nat} (h : k < p.length) (t : Nat) : pairsUp p k ++ ((p.getD k dB).2.take t).map (fun v => (k, v)) <+: pairsB p := by
  refine List.IsPrefix.trans ?_ (pairsUp_prefix (show k + 1 ≤ p.length by omega))
  rw [pairsUp_succ]
  exact List.prefix_append_right_inj _ |>.2 ((List.take_prefix _ _).map _)

theorem abides_alloc {β : Type} {B : Nat} {J : β → World → Prop} (h : AbidesFrom B J) {s : β} {W : World} (o : Obj) (hs : J s W) : J s (W.alloc o) :=
  h s W (W.alloc o) none hs (World.grownBy_alloc W o none) (fun r e => by cases e)

set_option maxRecDepth 100000 in
set_option maxHeartbeats 2000000 in
theorem vars1_in (n : Nat) (hn : 1 ≤ n) (l Bn : Nat) (w0 : World) (vp : Value) (p : List Blk) (H : IsBlocks w0 vp p) (J Jx : List (VI p.length) → World → Prop)
    (W : World) (hW : Below w0.heap.size w0 W) (hJ : AbidesFrom W.heap.size J)
    (hY : ∀ pre x W, J pre W → pre.length < (pairsB p).length → YieldAt Fence.wide (n - 1) Tryz.prog l (encVI x) W fun e W' =>
      (e = .returned (.bool true) ∧ J (pre ++ [x]) W' ∧ Below w0.heap.size W W') ∨ (e = .returned (.bool false) ∧ Jx (pre ++ [x]) W'))
    (hBn : W.cell? ⟨Bn, 0, none⟩ = some vp) (h0 : J [] W) :
    CallsIn Fence.wide n Tryz.prog 80 #[.func (.yield l) #[] #[], .pointer (some ⟨Bn, 0, none⟩)] W fun e W' => (∃ v, e = .returned v) ∧
      ((∃ ys : List (VI p.length), ys.map (fun x => x.1) = pairsB p ∧ J ys W') ∨ (∃ pre : List (VI p.length), pre.map (fun x => x.1) <+: pairsB p ∧ Jx pre W')) := by
  obtain ⟨a, cap, rfl, hlf⟩ := H.shape
  have HH := Lib.hid H
  have HY := Lib.hid hY
  have HJA := Lib.hid hJ
  have HJ0 := Lib.hid h0
  have HW := Lib.hid hW
  clear H hY h0 hW hJ
  refine callsIn_of_wp Tryz.func80 rfl trivial ?_ rfl
  simp only [Tryz.ntmps80, List.size_toArray, List.length_cons, List.length_nil, Nat.reduceAdd, Nat.reduceSub, Array.replicate_succ, Array.replicate_zero, List.push_toArray, List.append_toArray, List.nil_append, List.cons_append]
  gi_wp2
  gi_loopw [9] (fun i wr => ∃ (k : Nat) (pre : List (VI p.length)), k ≤ p.length ∧ i = .int .i64 k ∧ pre.map (fun x => x.1) = pairsUp p k ∧ J pre wr ∧ Below w0.heap.size w0 wr) (fun i _ => p.length - (intOf i).toNat)
  case atStart => exact ⟨0, [], Nat.zero_le _, rfl, by simp [pairsUp], HJ0.out, HW.out⟩
  case round =>
    obtain ⟨k, pre, hk, rfl, hpre, hJs, hbel⟩ := hrel
    have HPRE := Lib.hid hpre
    have HJS := Lib.hid hJs
    have HB := Lib.hid hbel
    have hszr := hbel.size
    clear hpre hJs hbel
    by_cases hlt : k < p.length
    · obtain ⟨b, off, u, rfl, hb, hcx0, hcu0, HU⟩ := HH.out.at hlt
      have hcx := (HB.out.cell (p := ⟨b, off + k * 2, none⟩) hb).trans hcx0
      have hcu := (HB.out.cell (p := ⟨b, off + k * 2 + 1, none⟩) hb).trans hcu0
      have HFT := Lib.hid (pairsUp_succ p k)
      have HPF := Lib.hid (fun t => pairs_prefix hlt t)
      clear hcx0 hcu0
      generalize p.getD k dB = y at *
      obtain ⟨y1, y2⟩ := y
      simp only at hcx hcu HFT HPF HU
      obtain ⟨ua, uc, eu, _, _, hyl, h64, bu, ou, hau, hcu2⟩ := HU
      subst eu
      have HAU := Lib.hid hau
      have HCU := Lib.hid hcu2
      have H64 := Lib.hid h64
      clear hau hcu2 h64
      have HST0 : Hid (pre.map (fun x : VI p.length => x.1) = pairsUp p k ++ (y2.take 0).map (fun v => (k, v))) := by show _ = _; simpa using HPRE.out
      have HJA1 : Hid (J pre (wr.alloc (.cells #[.bool y1, .slice ua y2.length uc] 53))) := abides_alloc HJA.out _ HJS.out
      have HB1 : Hid (Below w0.heap.size w0 (wr.alloc (.cells #[.bool y1, .slice ua y2.length uc] 53))) := HB.out.alloc hszr _
      generalize wr = wq at *
      gi_wp2
      gi_loopw [17] (fun i wr => ∃ (t : Nat) (pre : List (VI p.length)), t ≤ y2.length ∧ i = .int .i64 t ∧ pre.map (fun x => x.1) = pairsUp p k ++ (y2.take t).map (fun v => (k, v)) ∧ J pre wr ∧ Below w0.heap.size w0 wr) (fun i _ => y2.length - (intOf i).toNat)
      case atStart => exact ⟨0, pre, Nat.zero_le _, rfl, HST0.out, HJA1.out, HB1.out⟩
      case round =>
        obtain ⟨t, pre2, ht, rfl, hpre, hJs, hbel⟩ := hrel
        have HPRE2 := Lib.hid hpre
        have HJS2 := Lib.hid hJs
        have HB2 := Lib.hid hbel
        clear hpre hJs hbel
        by_cases hlt2 : t < y2.length
        · obtain ⟨rfl, hbu⟩ := HAU.out (by intro h; simp [h] at hlt2)
          have hcv := (HB2.out.cell (p := ⟨bu, ou + t, none⟩) hbu).trans (HCU.out t hlt2)
          have HTK0 := ints_take_succ hlt2
          have HTK : Hid ((y2.take (t + 1)).map (fun v => (k, v)) = (y2.take t).map (fun v => (k, v)) ++ [(k, y2.getD t 0)]) := by show _ = _; rw [HTK0, List.map_append]; rfl
          clear HTK0
          have hv64 := H64.out.at t hlt2
          have hlen : pre2.length < (pairsB p).length := by
            have h1 := (HPF.out (t + 1)).length_le
            have h2 := congrArg List.length HPRE2.out
            rw [HTK.out] at h1
            simp only [List.length_append, List.length_map, List.length_cons, List.length_nil] at h1 h2
            omega
          generalize y2.getD t 0 = x at *
          obtain ⟨fn, tmps, assign, body, hy, hR⟩ := HY.out pre2 ⟨(k, x), hlt, hv64⟩ wr HJS2.out hlen
          dsimp only [encVI] at hy
          have HR := Lib.hid hR
          clear hR
          gi_wp2
          refine HR.out.mono ?_
          rintro e W3 (⟨rfl, hJ3, hk3⟩ | ⟨rfl, hJx3⟩)
          · gi_wp2
            go_roundw
            case rel => exact ⟨t + 1, _, by omega, by go_num, by rw [List.map_append, HPRE2.out, HTK.out, List.append_assoc]; rfl, hJ3, HB2.out.trans hk3⟩
            case measure => simp [intOf]; omega
          · gi_wp2
            refine bodyPost_ret (results_none rfl _ _ _) rfl ?_
            exact ⟨⟨_, rfl⟩, .inr ⟨_, by have := HPF.out (t + 1); rw [HTK.out, ← List.append_assoc, ← HPRE2.out] at this; rw [List.map_append]; exact this, hJx3⟩⟩
        · have hte : t = y2.length := by omega
          subst hte
          gi_wp2
          go_roundw
          case rel => exact ⟨k + 1, pre2, by omega, by go_num, by rw [HFT.out]; simpa using HPRE2.out, HJS2.out, HB2.out⟩
          case measure => simp [intOf]; omega
    · have hke : k = p.length := by omega
      subst hke
      gi_wp2
      go_end0
      exact ⟨⟨_, rfl⟩, .inl ⟨pre, HPRE.out, HJS.out⟩⟩

theorem vars_in (n : Nat) (a : Option Addr) (k cap : Nat) (w : World) : CallsIn Fence.wide n Tryz.prog 61 #[.slice a k cap] w fun e w' => e = .returned (.func (.func 80) #[] #[.pointer (some ⟨w.heap.size, 0, none⟩)]) ∧ w' = w.alloc (.cells #[.slice a k cap] 22) := by
  refine callsIn_of_wp Tryz.func61 rfl trivial ?_ rfl
  simp only [Tryz.ntmps61, List.size_toArray, List.length_cons, List.length_nil, Nat.reduceAdd, Nat.reduceSub, Array.replicate_succ, Array.replicate_zero, List.push_toArray, List.append_toArray, List.nil_append, List.cons_append]
  gi_wp2
  go_ret
  exact ⟨rfl, rfl⟩

theorem vars_stops (n : Nat) (hn : 1 ≤ n) (Bn : Nat) (w0 w : World) (vp : Value) (p : List Blk) (H : IsBlocks w0 vp p) (hW : Below w0.heap.size w0 w) (hB : Bn < w.heap.size) (hc : w.cell? ⟨Bn, 0, none⟩ = some vp) :
    SeqStopsK Fence.wide n Tryz.prog 80 #[.pointer (some ⟨Bn, 0, none⟩)] (encVI (m := p.length)) (Below w0.heap.size) (fun ys => ys.map (fun x => x.1) = pairsB p) (fun pre => pre.map (fun x => x.1) <+: pairsB p) (pairsB p).length w := fun l J Jx W hWW hJ _ hY h0 =>
  vars1_in n hn l Bn w0 vp p H J Jx W (hW.trans (hWW.mono hW.size)) hJ hY ((hWW.cell (p := ⟨Bn, 0, none⟩) hB).trans hc) h0

end Go.Proofs.YtmiijgjpkkmoaaaGreat
