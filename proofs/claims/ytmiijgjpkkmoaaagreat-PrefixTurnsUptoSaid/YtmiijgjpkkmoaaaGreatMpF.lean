/- Joined texts: PxPlaces, PxReduce, PxFind. -/
import Derived.Test.YtmiijgjpkkmoaaaGreatMpE
import Derived.Maps.OwnIn
import Derived.Deep.RegionWith
import Derived.Deep.DeepCutAuto
import Derived.Deep.QuietTactic
/- prefix.placesOf: a map from the variables of literals to the indices of their blocks. -/
namespace Go.Proofs.YtmiijgjpkkmoaaaGreat
open Go.RowKit Go.Maps Go.Shelf
set_option linter.unusedVariables false
set_option linter.unusedSimpArgs false
attribute [local go_sem] Oper.semAt_some

/-- Block b is a map from magnitudes to indices, which says f. -/
def PlI (w : World) (b n : Nat) (f : Int → Option Int) : Prop :=
  ∃ D : DataW Unit, w.ownsMap Tryz.prog 102 (plainElem Tryz.prog 3) b n D ∧ IsMap D ∧ (∀ k, D.atKey (.int .u64 k) (.lit (.int .i64 0)) = .lit (.int .i64 ((f k).getD 0))) ∧ (∀ k, Maps.has D (.int .u64 k) = (f k).isSome)
theorem PlI.lt {w : World} {b n : Nat} {f : Int → Option Int} (h : PlI w b n f) : b < w.heap.size := by obtain ⟨D, h1, _⟩ := h; exact h1.lt
theorem PlI.kept {w w' : World} {b n : Nat} {f : Int → Option Int} {Q : Nat → Prop} (h : PlI w b n f) (k : Kept Q w w') (hb : ¬ Q b) : PlI w' b n f := by
  obtain ⟨D, h1, h2⟩ := h
  exact ⟨D, ownsMap_kept h1 k hb, h2⟩
theorem PlI.below {w w' : World} {b B n : Nat} {f : Int → Option Int} (h : PlI w b n f) (hb : Below B w w') (hB : w.heap.size ≤ B) : PlI w' b n f :=
  h.kept (Q := fun _ => False) ⟨hb.os, hb.tape, hb.output, hb.size, fun k hk _ => hb.block k (by omega)⟩ (fun h => h)
theorem PlI.grown {w w' : World} {row : Option Nat} {b n : Nat} {f : Int → Option Int} (h : PlI w b n f) (hg : w.grownBy w' row) (hne : row ≠ some b) : PlI w' b n f := h.kept (Kept.of_grown hg) hne
theorem PlI.made (w : World) : PlI (w.alloc (.map #[] 0)) w.heap.size 0 (fun _ => none) :=
  ⟨.map [], World.ownsMap_made w Tryz.prog 102 _, isMap_empty, fun k => rfl, fun k => rfl⟩
theorem u64w {x : Int} (h1 : 0 ≤ x) (h2 : x ≤ 18446744073709551615) : (Lit.int .u64 x).wf = true := by
  simp [Lit.wf, IntKind.min, IntKind.max, IntKind.signed, IntKind.bits]
  omega
theorem zero_int (w : World) : (zeroValue 3).run Tryz.prog w = .ok (.int .i64 0) w := by
  have := Tryz.zeroValue3
  exact this w
theorem PlI.look {w : World} {b n : Nat} {f : Int → Option Int} (h : PlI w b n f) (k : Int) (hw : (Lit.int .u64 k).wf = true) : (Instr.lookup 87 (.map (some b)) (.int .u64 k) false).run Tryz.prog w = .ok (.int .i64 ((f k).getD 0)) w := by
  obtain ⟨D, h1, _, h2, h3⟩ := h
  obtain ⟨c, hrun, hat, _⟩ := h1.lookup_int (int_keyed Tryz.underlying102) Tryz.underlying87 Tryz.underlying3 (zero_int w) (keyOf_int_mk Tryz.underlying102 hw)
  rw [h2] at hat
  simp at hat
  rw [hat]
  exact hrun
theorem PlI.look_ok {w : World} {b n : Nat} {f : Int → Option Int} (h : PlI w b n f) (k : Int) (hw : (Lit.int .u64 k).wf = true) : (Instr.lookup 87 (.map (some b)) (.int .u64 k) true).run Tryz.prog w = .ok (.tuple #[.int .i64 ((f k).getD 0), .bool (f k).isSome]) w := by
  obtain ⟨D, h1, _, h2, h3⟩ := h
  obtain ⟨v, ps, hrun, hv⟩ := h1.look_ok (int_keyed Tryz.underlying102) Tryz.underlying87 (z := .int .i64 0) (zero_int w) (plainElem_int Tryz.underlying3 (by decide)) (keyOf_int_mk Tryz.underlying102 hw)
  obtain ⟨c, rfl, hc, _⟩ := plainElem_int_inv Tryz.underlying3 hv
  have hc := congrArg Prod.fst hc
  rw [h2] at hc
  simp at hc
  rw [h3] at hrun
  rw [hc]
  exact hrun
def updF (f : Int → Option Int) (k y : Int) : Int → Option Int := fun j => if j = k then some y else f j
theorem PlI.put {w : World} {b n : Nat} {f : Int → Option Int} (h : PlI w b n f) (hn : n < maxLen) (k y : Int) (hw : (Lit.int .u64 k).wf = true) (hy : (Lit.int .i64 y).wf = true) :
    ∃ w', (Instr.mapUpdate 87 (.map (some b)) (.int .u64 k) (.int .i64 y)).run Tryz.prog w = .ok () w' ∧ PlI w' b (n + 1) (updF f k y) ∧ Kept (fun i => i = b) w w' := by
  obtain ⟨D, h1, hD, h2, h3⟩ := h
  obtain ⟨w', hrun, h4, h5⟩ := h1.update (int_keyed Tryz.underlying102) Tryz.underlying87 hn (keyOf_int_mk Tryz.underlying102 hw) (plainElem_int Tryz.underlying3 hy)
  refine ⟨w', hrun, ⟨_, h4, hD.put _ _, fun j => ?_, fun j => ?_⟩, (Kept.of_grown h5).mono fun i _ e => (Option.some.inj e).symm⟩
  · unfold updF
    by_cases e : j = k
    · subst e
      rw [atKey_put_same hD (show WideAt.IsKeyLit (Lit.int _ _) from trivial)]
      simp
    · rw [atKey_put_other (by simpa using e), h2]
      simp [e]
  · unfold updF
    by_cases e : j = k
    · subst e
      rw [has_put_same hD (show WideAt.IsKeyLit (Lit.int _ _) from trivial)]
      simp
    · rw [has_put_other (by simpa using e), h3]
      simp [e]

/-- The index of the block of the first number k that was told, or -1. -/
def firstIn (pre : List (Nat × Int)) (k : Int) : Int := match pre.find? (fun x => x.2 == k) with | some x => x.1 | none => -1
theorem firstIn_nil (k : Int) : firstIn [] k = -1 := rfl
theorem firstIn_ge (pre : List (Nat × Int)) (k : Int) : -1 ≤ firstIn pre k := by
  unfold firstIn
  split <;> omega
theorem firstIn_snoc (pre : List (Nat × Int)) (x : Nat × Int) (k : Int) : firstIn (pre ++ [x]) k = if firstIn pre k < 0 ∧ x.2 = k then (x.1 : Int) else firstIn pre k := by
  unfold firstIn
  rw [List.find?_append]
  cases h : pre.find? (fun x => x.2 == k) with
  | some y => simp; omega
  | none =>
    by_cases e : x.2 = k
    · simp [e]
    · simp [e]
/-- What the map says when these have been told. -/
def plF (L : List Int) (pre : List (Nat × Int)) : Int → Option Int := fun k => if k ∈ L then some (firstIn pre k) else none

theorem plF_skip {L : List Int} {pre : List (Nat × Int)} {x : Nat × Int} (h : x.2 ∉ L) : plF L (pre ++ [x]) = plF L pre := by
  funext k
  unfold plF
  by_cases e : k ∈ L
  · rw [if_pos e, if_pos e, firstIn_snoc, if_neg (fun h2 => h (by rw [h2.2]; exact e))]
  · rw [if_neg e, if_neg e]
theorem plF_had {L : List Int} {pre : List (Nat × Int)} {x : Nat × Int} (h : ¬ firstIn pre x.2 < 0) : plF L (pre ++ [x]) = plF L pre := by
  funext k
  have e : firstIn (pre ++ [x]) k = firstIn pre k := by rw [firstIn_snoc, if_neg (fun h2 => h (by rw [h2.2]; exact h2.1))]
  unfold plF
  rw [e]
theorem plF_put {L : List Int} {pre : List (Nat × Int)} {x : Nat × Int} (h : x.2 ∈ L) (h2 : firstIn pre x.2 < 0) : updF (plF L pre) x.2 x.1 = plF L (pre ++ [x]) := by
  funext k
  unfold updF plF
  by_cases e : k = x.2
  · subst e
    rw [if_pos rfl, if_pos h, firstIn_snoc, if_pos ⟨h2, rfl⟩]
  · have e2 : firstIn (pre ++ [x]) k = firstIn pre k := by rw [firstIn_snoc, if_neg (fun h3 => e h3.2.symm)]
    rw [if_neg e, e2]

/-- Left in the ordinary way alone. -/
def OnlyN (Q : Act → World → Prop) : Exit → Act → World → Prop
  | .normal, a, w => Q a w
  | _, _, _ => False
theorem wp_onlyN {P : Program} {c : Code} {Q : Exit → Act → World → Prop} {a : Act} {w : World} (h : c.wp P (OnlyN (Q .normal)) a w) : c.wp P Q a w :=
  wp_mono h (fun e a w hq => by cases e <;> first | exact hq | exact hq.elim)
theorem plF_nil : plF [] [] = fun _ => none := by funext k; unfold plF; rw [if_neg (by simp)]
theorem plF_put1 (L : List Int) (k : Int) : updF (plF L []) k (-1) = plF (L ++ [k]) [] := by
  funext j
  unfold updF plF
  by_cases e : j = k
  · subst e; simp [firstIn_nil]
  · by_cases h : j ∈ L
    · simp [e, h]
    · simp [e, h]

set_option maxRecDepth 100000 in
set_option maxHeartbeats 3200000 in
theorem placesof_any (vp vl : Value) (p : List Blk) (l : List Int) (w : World) (HP : IsBlocks w vp p) (HL : IsInts w vl l) (hl : l.length ≤ 4000000) (hp : (pairsB p).length ≤ 4000000) :
    Calls Tryz.prog 56 #[vp, vl] w fun e w' => e = .returned (.map (some w.heap.size)) ∧ (∃ n, PlI w' w.heap.size n (plF (l.map absOf) (pairsB p))) ∧ Below w.heap.size w w' := by
  refine (callsIn_wide (n := 5)).1 ?_
  have HPP := Lib.hid HP
  obtain ⟨a, cap, rfl, hlp⟩ := HP.shape
  obtain ⟨la, lc, rfl, _, _, _, h64, b, off, ha, hc⟩ := HL
  have HC := Lib.hid hc
  have HA := Lib.hid ha
  have H64 := Lib.hid h64
  have HHL := Lib.hid hl
  have HHP := Lib.hid hp
  have hmm := @run_makeMap Tryz.prog
  have bM := Boxed.new (w.alloc (.map #[] 0)) 87 (.map (some w.heap.size))
  have hP0 := (PlI.made w).kept (Kept.alloc (fun _ => False) _ (.cells #[.map (some w.heap.size)] 87)) (fun h => h)
  have hB0 : Below w.heap.size w ((w.alloc (.map #[] 0)).alloc (.cells #[.map (some w.heap.size)] 87)) := ((Below.refl _ w).alloc (Nat.le_refl _) _).alloc (by simp) _
  rw [World.size_alloc] at bM
  have HBM := Lib.hid bM
  have HP0 := Lib.hid hP0
  have HB0 := Lib.hid hB0
  clear hc ha h64 HP bM hP0 hB0 hl hp
  refine callsIn_of_wp_marks Tryz.func56 rfl trivial ?_ rfl
  simp only [Tryz.ntmps56, List.size_toArray, List.length_cons, List.length_nil, Nat.reduceAdd, Nat.reduceSub, Array.replicate_succ, Array.replicate_zero, List.push_toArray, List.append_toArray, List.nil_append, List.cons_append]
  refine wpIn_wide.2 ?_
  go_wp2
  go_loopw [15] (fun i wr => ∃ k : Nat, k ≤ l.length ∧ i = .int .i64 k ∧ (∃ n, n ≤ k ∧ PlI wr w.heap.size n (plF ((l.take k).map absOf) [])) ∧ Boxed wr (w.heap.size + 1) 87 (.map (some w.heap.size)) ∧ Below w.heap.size w wr) (fun i _ => l.length - (intOf i).toNat)
  case atStart => exact ⟨0, Nat.zero_le _, rfl, ⟨0, Nat.le_refl _, by have := HP0.out; simpa [plF_nil] using this⟩, HBM.out, HB0.out⟩
  case round =>
    obtain ⟨k, hk, rfl, ⟨n, hn, hpl⟩, hbox, hbel⟩ := hrel
    have HPL := Lib.hid hpl
    have HBX := Lib.hid hbox
    have HB := Lib.hid hbel
    have hsz := hbel.size
    clear hpl hbox hbel
    by_cases hlt : k < l.length
    · obtain ⟨rfl, hb⟩ := HA.out (by intro h; simp [h] at hlt)
      have hy := (HB.out.cell (p := ⟨b, off + k, none⟩) hb).trans (HC.out k hlt)
      have hv64 := H64.out.at k hlt
      have HTK0 := congrArg (List.map absOf) (ints_take_succ hlt)
      rw [List.map_append] at HTK0
      have HTK : Hid ((l.take (k + 1)).map absOf = (l.take k).map absOf ++ [absOf (l.getD k 0)]) := HTK0
      clear HTK0
      generalize l.getD k 0 = x at *
      have hx1 := hv64.1
      have hx2 := hv64.2
      have hbx : wr.drew.cell? ⟨w.heap.size + 1, 0, none⟩ = some (.map (some w.heap.size)) := HBX.out.cell
      have hpd : PlI wr.drew w.heap.size n (plF ((l.take k).map absOf) []) := HPL.out
      have hab : 0 ≤ absOf x ∧ absOf x ≤ 9223372036854775808 := by unfold absOf; split <;> omega
      obtain ⟨w2, hrun, hp2, hk2⟩ := hpd.put (by unfold maxLen; have := HHL.out; omega) (absOf x) (-1) (u64w hab.1 (by omega)) (by decide)
      have HMG := Lib.hid (fun W => magnitude_any x W hx1 hx2)
      rw [plF_put1] at hp2
      have HP2 := Lib.hid hp2
      have HK2 := Lib.hid hk2
      clear hpd hp2 hk2
      generalize absOf x = ax at *
      go_upto_region 5 with fail
      refine wp_onlyN ?_
      go_region_with (go_at_call 79; refine (HMG.out _).mono ?_; rintro e w1 ⟨rfl, rfl⟩)
      all_goals simp only [OnlyN]
      all_goals
        go_wp2
        go_roundw
        case rel => exact ⟨k + 1, by omega, by go_num, ⟨n + 1, by omega, by rw [HTK.out]; exact HP2.out⟩, (HK2.out.block _ HBX.out.lt (by omega)).trans HBX.out, (HB.out.drew).trans (HK2.out.belowB (Nat.le_refl _) hsz)⟩
        case measure => simp [intOf]; omega
    · have hke : k = l.length := by omega
      subst hke
      rw [List.take_length] at HPL
      have HPV := Lib.hid (fun W => vars_in 4 a p.length cap W)
      go_wp2_with (go_at_call 61; refine (callsIn_wide.1 (HPV.out _)).mono ?_; rintro e w1 ⟨rfl, rfl⟩)
      have HL0 : Hid (∀ k ∈ l.map absOf, 0 ≤ k) := fun k hk => by
        obtain ⟨y, _, rfl⟩ := List.mem_map.1 hk
        unfold absOf
        split <;> omega
      have HLL : Hid (l.length ≤ 4000000) := HHL.out
      have hlt0 := HPL.out.lt
      have hlt1 := HBX.out.lt
      obtain ⟨L, hL⟩ : ∃ L, l.map absOf = L := ⟨_, rfl⟩
      rw [hL] at HPL HL0
      have HLQ := Lib.hid hL
      clear hL
      refine (wpIn_wide (n := 5)).1 ?_
      have HB1 := Lib.hid (HB.out.alloc hsz (.cells #[.slice a p.length cap] 22))
      have hsz2 : (wr.alloc (.cells #[.slice a p.length cap] 22)).heap.size = wr.heap.size + 1 := by simp
      refine wpIn_rangeFunc_ownG rfl (by omega) (gf := 80) (lb := #[.pointer (some ⟨wr.heap.size, 0, none⟩)]) rfl trivial (enters_of Tryz.func80 (by kernel_rfl) rfl)
        (vars_stops 4 (by omega) wr.heap.size w (wr.alloc (.cells #[.slice a p.length cap] 22)) _ p HPP.out HB1.out (by simp) (Boxed.new wr 22 _).cell) belowK_t (belowK_b (by simp; omega)) (Below.refl _ _) (fun _ => rfl)
        (fun pre W => ((∃ n, n ≤ 4000000 + pre.length ∧ PlI W w.heap.size n (plF L (pre.map (fun x => x.1)))) ∧ Boxed W (w.heap.size + 1) 87 (.map (some w.heap.size))) ∧ Below w.heap.size w W)
        (fun _ _ _ => False)
        (OwnFrom.and (fun s A B row hs hg hr => ⟨by
            obtain ⟨⟨n, hn, hp⟩, hb⟩ := hs
            exact ⟨n, hn, hp.grown hg (fun e => by have := (hr _ e).1; rw [hsz2] at this; omega)⟩, hs.2.kept hg (fun e => by have := (hr _ e.symm).1; rw [hsz2] at this; omega)⟩) (ownFrom_below (Nat.le_refl _) (by rw [hsz2]; omega)))
        (fun _ _ _ _ _ hs _ _ => hs)
        ⟨⟨⟨n, by have := HLL.out; simp; omega, by
          have h0 := HPL.out.kept (Kept.alloc (fun _ => False) wr (.cells #[.slice a p.length cap] 22)) (fun h => h)
          exact h0⟩, HBX.out.alloc _⟩, HB1.out⟩
        (fun x => { tmps := #[.slice a p.length cap, .slice la l.length lc, undef, undef, .map none, .pointer (some ⟨w.heap.size + 1, 0, none⟩), undef, u7, .int .i64 (x.1.1 : Int), .int .i64 x.1.2, undef, undef, .map (some w.heap.size), .slice la l.length lc, .int .i64 l.length, .int .i64 l.length, .bool false, u17, u18, u19, u20, u21, u22, .slice a p.length cap, .func (.func 80) #[] #[.pointer (some ⟨wr.heap.size, 0, none⟩)], .int .i64 (x.1.1 : Int), .int .i64 x.1.2, undef, undef, undef, undef, undef, undef, undef, undef, undef, undef, undef, undef, undef, undef, undef, undef, undef, undef, undef], defers := [] }) ?assign ?body ?done ?stop
      case assign =>
        intro l x W K hK
        gi_wp2
        exact hK
      case body =>
        rintro lp pre ⟨⟨i, v⟩, hx⟩ W ⟨⟨⟨m, hm, hpl⟩, hbx⟩, hbel⟩ hN
        simp only at hx ⊢
        have hcb := hbx.cell
        have HPW := Lib.hid hpl
        have HBW := Lib.hid hbx
        have HBEL := Lib.hid hbel
        clear hpl hbx hbel
        have HBB := Lib.hid hm
        clear hm
        have hNl : pre.length ≤ 4000000 := by have := HHP.out; omega
        have hx1 := hx.2.1
        have hx2 := hx.2.2
        by_cases hneg : v < 0
        · have HF := Lib.hid (plF_skip (L := L) (pre := pre.map (fun x => x.1)) (x := (i, v)) (fun h => by have := HL0.out _ h; simp at this; omega))
          gi_wp2
          exact ⟨KeepsFrom.refl _ _, Below.refl _ _, ⟨⟨m, by have := HBB.out; simp; omega, by rw [List.map_append]; have := HPW.out; rw [← HF.out] at this; exact this⟩, HBW.out⟩, HBEL.out⟩
        · have hv0 : 0 ≤ v := by omega
          have hwr : IntKind.u64.wrap v = v := wrap_pos hv0 hx2
          have hlk := HPW.out.look_ok v (u64w hv0 (by omega))
          by_cases hin : v ∈ L
          · have hfv : plF L (pre.map (fun x => x.1)) v = some (firstIn (pre.map (fun x => x.1)) v) := by unfold plF; rw [if_pos hin]
            rw [hfv] at hlk
            simp only [Option.getD_some, Option.isSome_some] at hlk
            by_cases hf : firstIn (pre.map (fun x => x.1)) v < 0
            · obtain ⟨W2, hrun, hp2, hk2⟩ := HPW.out.put (by unfold maxLen; have := HBB.out; omega) v (i : Int) (u64w hv0 (by omega)) (i64w (by omega) (by omega))
              have HF := Lib.hid (plF_put (x := (i, v)) hin hf)
              have HP2 := Lib.hid hp2
              have HK2 := Lib.hid hk2
              clear hfv hp2 hk2 hin
              generalize firstIn (pre.map (fun x => x.1)) v = fi at *
              gi_wp2
              have hszW := HBEL.out.size
              exact ⟨kept_from HK2.out (fun k hk e => by first | omega | (rw [hsz2] at hk; omega)), HK2.out.belowB (Nat.le_refl _) hszW, ⟨⟨m + 1, by have := HBB.out; simp; omega, by rw [List.map_append]; have := HP2.out; rw [HF.out] at this; exact this⟩, (HK2.out.block _ HBW.out.lt (by omega)).trans HBW.out⟩, HBEL.out.trans (HK2.out.belowB (Nat.le_refl _) hszW)⟩
            · have HF := Lib.hid (plF_had (L := L) (x := (i, v)) hf)
              have hf2 : decide (firstIn (pre.map (fun x => x.1)) v < 0) = false := by simpa using hf
              clear hfv hin
              generalize firstIn (pre.map (fun x => x.1)) v = fi at *
              gi_wp2
              exact ⟨KeepsFrom.refl _ _, Below.refl _ _, ⟨⟨m, by have := HBB.out; simp; omega, by rw [List.map_append]; have := HPW.out; rw [← HF.out] at this; exact this⟩, HBW.out⟩, HBEL.out⟩
          · have hfv : plF L (pre.map (fun x => x.1)) v = none := by unfold plF; rw [if_neg hin]
            rw [hfv] at hlk
            simp only [Option.getD_none, Option.isSome_none] at hlk
            have HF := Lib.hid (plF_skip (L := L) (pre := pre.map (fun x => x.1)) (x := (i, v)) hin)
            clear hfv hin
            gi_wp2
            exact ⟨KeepsFrom.refl _ _, Below.refl _ _, ⟨⟨m, by have := HBB.out; simp; omega, by rw [List.map_append]; have := HPW.out; rw [← HF.out] at this; exact this⟩, HBW.out⟩, HBEL.out⟩
      case done =>
        rintro D ys W hD hys ⟨⟨⟨m, hm, hpl⟩, hbx⟩, hbel⟩ hK
        have hcb := hbx.cell
        rw [hys] at hpl
        go_wp2
        refine ⟨by simp, .inl ⟨_, _, rfl, run_takeDeferred hK, ?_⟩⟩
        rw [HLQ.out]
        exact ⟨_, results_tmp rfl _ _ _, rfl, ⟨m, hpl.grown (grownBy_putObj' _ D _) (fun e => by cases e; rw [hsz2] at hD; omega)⟩, hbel.trans (belowK_b (w := w) (Nat.le_refl _) W D _ _ (by rw [hsz2] at hD; omega) hK rfl rfl)⟩
      case stop =>
        rintro D c pre W _ _ h _
        exact h.elim

end Go.Proofs.YtmiijgjpkkmoaaaGreat

/- prefix.Reduce. -/
namespace Go.Proofs.YtmiijgjpkkmoaaaGreat
open Go.RowKit Go.Maps
set_option linter.unusedVariables false
set_option linter.unusedSimpArgs false

/-- The index of the first block that has the variable of a literal, or -1. -/
def plOf (p : List Blk) (x : Int) : Int := firstIn (pairsB p) (absOf x)
theorem plOf_ge (p : List Blk) (x : Int) : -1 ≤ plOf p x := firstIn_ge _ _
theorem pairsUp_lt {p : List Blk} {k : Nat} {x : Nat × Int} (h : x ∈ pairsUp p k) : x.1 < k ∧ x.2 ∈ (p.getD x.1 dB).2 := by
  unfold pairsUp at h
  obtain ⟨i, hi, hx⟩ := List.mem_flatMap.1 h
  obtain ⟨v, hv, rfl⟩ := List.mem_map.1 hx
  exact ⟨List.mem_range.1 hi, hv⟩
theorem plOf_lt (p : List Blk) (x : Int) : plOf p x < p.length ∨ plOf p x = -1 := by
  unfold plOf firstIn
  split
  · rename_i y hy
    have := pairsUp_lt (List.mem_of_find?_eq_some hy)
    left
    omega
  · right; rfl
def lastStep (p : List Blk) (e : Bool) (g x : Int) : Int := if g < plOf p x ∧ (p.getD (plOf p x).toNat dB).1 = e then plOf p x else g
def lastL (p : List Blk) (e : Bool) (l : List Int) : Int := l.foldl (lastStep p e) (-1)
theorem lastL_snoc (p : List Blk) (e : Bool) (l : List Int) (x : Int) : lastL p e (l ++ [x]) = lastStep p e (lastL p e l) x := by unfold lastL; rw [List.foldl_append]; rfl
theorem lastL_rng (p : List Blk) (e : Bool) (l : List Int) : -1 ≤ lastL p e l ∧ (lastL p e l < p.length ∨ lastL p e l = -1) := by
  unfold lastL
  suffices h : ∀ (l : List Int) (g : Int), (-1 ≤ g ∧ (g < p.length ∨ g = -1)) → (-1 ≤ l.foldl (lastStep p e) g ∧ (l.foldl (lastStep p e) g < p.length ∨ l.foldl (lastStep p e) g = -1)) from h l (-1) ⟨by omega, .inr rfl⟩
  intro l
  induction l with
  | nil => exact fun g h => h
  | cons x r ih =>
    intro g h
    refine ih _ ?_
    unfold lastStep
    split
    · exact ⟨plOf_ge _ _, plOf_lt _ _⟩
    · exact h

theorem absOf_rng {x : Int} (h1 : -9223372036854775808 ≤ x) (h2 : x ≤ 9223372036854775807) : 0 ≤ absOf x ∧ absOf x ≤ 9223372036854775808 := by unfold absOf; split <;> omega

set_option maxHeartbeats 800000 in
theorem of_any (b n : Nat) (f : Int → Option Int) (x y : Int) (w : World) (h : PlI w b n f) (hf : f (absOf x) = some y) (h1 : -9223372036854775808 ≤ x) (h2 : x ≤ 9223372036854775807) :
    Calls Tryz.prog 60 #[.map (some b), .int .i64 x] w fun e w' => e = .returned (.int .i64 y) ∧ w = w' := by
  have hr := absOf_rng h1 h2
  have hlk := h.look (absOf x) (u64w hr.1 (by omega))
  rw [hf] at hlk
  simp only [Option.getD_some] at hlk
  have HMG := Lib.hid (magnitude_any x w h1 h2)
  clear h hf hr
  generalize absOf x = ax at *
  go_enter Tryz.func60, Tryz.ntmps60
  go_wp2_with (go_at_call 79; refine HMG.out.mono ?_; rintro e w1 ⟨rfl, rfl⟩)
  go_ret
  exact ⟨rfl, rfl⟩

set_option maxRecDepth 100000 in
set_option maxHeartbeats 1600000 in
theorem last_any (vp vl : Value) (p : List Blk) (l : List Int) (e : Bool) (b n : Nat) (w : World) (HP : IsBlocks w vp p) (HL : IsInts w vl l) (h : PlI w b n (plF (l.map absOf) (pairsB p))) :
    Calls Tryz.prog 57 #[.map (some b), vp, vl, .bool e] w fun en w' => en = .returned (.int .i64 (lastL p e l)) ∧ w = w' := by
  have HPP := Lib.hid HP
  have HH := Lib.hid h
  obtain ⟨a, cap, rfl, hlp⟩ := HP.shape
  obtain ⟨la, lc, rfl, _, _, hll, h64, bl, ol, ha, hc⟩ := HL
  have HC := Lib.hid hc
  have HA := Lib.hid ha
  have H64 := Lib.hid h64
  clear hc ha h64 HP h
  go_enter Tryz.func57, Tryz.ntmps57
  go_wp2
  go_loop [9, 15] (fun g i => ∃ k : Nat, k ≤ l.length ∧ i = .int .i64 k ∧ g = .int .i64 (lastL p e (l.take k))) (fun _ i => l.length - (intOf i).toNat)
  case atStart => exact ⟨0, Nat.zero_le _, rfl, rfl⟩
  case round =>
    obtain ⟨k, hk, rfl, rfl⟩ := hrel
    by_cases hlt : k < l.length
    · obtain ⟨rfl, hbl⟩ := HA.out (by intro h; simp [h] at hlt)
      have hy := HC.out k hlt
      have hv64 := H64.out.at k hlt
      have hx1 := hv64.1
      have hx2 := hv64.2
      have hmem : absOf (l.getD k 0) ∈ l.map absOf := List.mem_map_of_mem (ints_getD_mem hlt)
      have hf : plF (l.map absOf) (pairsB p) (absOf (l.getD k 0)) = some (plOf p (l.getD k 0)) := by unfold plF; rw [if_pos hmem]; rfl
      have HO := Lib.hid (of_any b n _ _ _ w HH.out hf hx1 hx2)
      have HS : Hid (lastL p e (l.take (k + 1)) = lastStep p e (lastL p e (l.take k)) (l.getD k 0)) := by show _ = _; rw [ints_take_succ hlt, lastL_snoc]
      have hr1 := plOf_ge p (l.getD k 0)
      have hr2 := plOf_lt p (l.getD k 0)
      have hg := lastL_rng p e (l.take k)
      have HS1 : Hid (lastL p e (l.take k) < plOf p (l.getD k 0) → (p.getD (plOf p (l.getD k 0)).toNat dB).1 = e → lastStep p e (lastL p e (l.take k)) (l.getD k 0) = plOf p (l.getD k 0)) := fun h1 h2 => if_pos ⟨h1, h2⟩
      have HS2 : Hid (¬ (p.getD (plOf p (l.getD k 0)).toNat dB).1 = e → lastStep p e (lastL p e (l.take k)) (l.getD k 0) = lastL p e (l.take k)) := fun h2 => if_neg (fun h => h2 h.2)
      have HS3 : Hid (¬ lastL p e (l.take k) < plOf p (l.getD k 0) → lastStep p e (lastL p e (l.take k)) (l.getD k 0) = lastL p e (l.take k)) := fun h2 => if_neg (fun h => h2 h.1)
      generalize l.getD k 0 = x at *
      generalize lastL p e (l.take k) = g at *
      clear hmem hf hv64
      by_cases hgt : g < plOf p x
      · obtain ⟨i, hi⟩ : ∃ i : Nat, plOf p x = (i : Int) := ⟨(plOf p x).toNat, by omega⟩
        have hilt : i < p.length := by omega
        obtain ⟨b2, off, u, rfl, hb, hcx, _, _⟩ := HPP.out.at hilt
        rw [hi] at HO HS1 HS2 hgt
        simp only [Int.toNat_natCast] at HS1 HS2
        generalize (p.getD i dB).1 = e2 at *
        have hi0 : (0 : Int) ≤ (i : Int) := by omega
        have hi1 : (i : Int) < (p.length : Int) := by omega
        clear hr1 hr2 hi hg
        by_cases he : e2 = e
        · subst he
          have HV := Lib.hid (HS1.out hgt rfl)
          have hbb : (e2 == e2) = true := by simp
          go_wp2_with (go_at_call 60; refine HO.out.mono ?_; rintro e w1 ⟨rfl, rfl⟩)
          go_round
          case rel => exact ⟨k + 1, by omega, by go_num, by rw [HS.out, HV.out]⟩
          case measure => simp [intOf]; omega
        · have HV := Lib.hid (HS2.out he)
          have hbb : (e2 == e) = false := by simpa using he
          go_wp2_with (go_at_call 60; refine HO.out.mono ?_; rintro e w1 ⟨rfl, rfl⟩)
          go_round
          case rel => exact ⟨k + 1, by omega, by go_num, by rw [HS.out, HV.out]⟩
          case measure => simp [intOf]; omega
      · have HV := Lib.hid (HS3.out hgt)
        generalize plOf p x = q at *
        have hd : decide (g < q) = false := by simpa using hgt
        go_wp2_with (go_at_call 60; refine HO.out.mono ?_; rintro e w1 ⟨rfl, rfl⟩)
        go_round
        case rel => exact ⟨k + 1, by omega, by go_num, by rw [HS.out, HV.out]⟩
        case measure => simp [intOf]; omega
    · have hke : k = l.length := by omega
      subst hke
      rw [List.take_length]
      go_wp2
      go_ret
      exact ⟨rfl, rfl⟩

def keepR (p : List Blk) (g x : Int) : Bool := decide (plOf p x ≤ g)
theorem red_enters (args : Array Value) (w : World) : (callFunc 59 args).run Tryz.prog w = .ok (.enter 59 args) w := enters_of Tryz.func59 (by kernel_rfl) rfl args w

set_option maxRecDepth 100000 in
set_option maxHeartbeats 800000 in
theorem redc_any (b n B1 B2 : Nat) (p : List Blk) (L : List Int) (x g : Int) (w : World) (h : PlI w b n (plF L (pairsB p))) (hm : absOf x ∈ L) (h1 : -9223372036854775808 ≤ x) (h2 : x ≤ 9223372036854775807)
    (c1 : w.cell? ⟨B1, 0, none⟩ = some (.map (some b))) (c2 : w.cell? ⟨B2, 0, none⟩ = some (.int .i64 g)) :
    Calls Tryz.prog 59 #[.int .i64 x, .pointer (some ⟨B1, 0, none⟩), .pointer (some ⟨B2, 0, none⟩)] w fun e w' => e = .returned (.bool (keepR p g x)) ∧ Quiet w w' := by
  have hf : plF L (pairsB p) (absOf x) = some (plOf p x) := by unfold plF; rw [if_pos hm]; rfl
  have HO := Lib.hid (fun q => of_any b n _ x _ (w.drewN q) (h.below ((Quiet.drewN (Quiet.refl w) q).below w.heap.size) (Nat.le_refl _)) hf h1 h2)
  have HR : Hid (keepR p g x = decide (plOf p x ≤ g)) := rfl
  clear h hm hf
  generalize plOf p x = q at *
  go_enter Tryz.func59, Tryz.ntmps59
  go_wp2_with fail
  go_quiet ((go_at_call 60; refine quiet_left (HO.out _)))
  go_wp2
  go_ret
  rw [HR.out]
  exact ⟨rfl, ⟨_, rfl⟩⟩

set_option maxRecDepth 100000 in
set_option maxHeartbeats 1600000 in
theorem reduce_any (vp vl : Value) (p : List Blk) (l : List Int) (cube : Bool) (w : World) (HP : IsBlocks w vp p) (HL : IsInts w vl l) (hl : l.length ≤ 4000000) (hp : (pairsB p).length ≤ 4000000) :
    Calls Tryz.prog 23 #[vp, vl, .bool cube] w (RetOwn w (l.filter (keepR p (lastL p (!cube) l)))) := by
  have HPP := Lib.hid HP
  have HLL := Lib.hid HL
  have HPO := Lib.hid (placesof_any vp vl p l w HP HL hl hp)
  have HHL := Lib.hid hl
  have HX := Lib.hid (fun (W : World) (n : Nat) (hb : Below w.heap.size w W) (hpl : PlI W w.heap.size n (plF (l.map absOf) (pairsB p))) => last_any vp vl p l (!cube) w.heap.size n W (HP.below hb (Nat.le_refl _)) (HL.below hb (Nat.le_refl _)) hpl)
  obtain ⟨a, cap, rfl, hlp⟩ := HP.shape
  obtain ⟨la, lc, rfl⟩ := HL.shape
  have H64 := Lib.hid HL.in64
  generalize hg : lastL p (!cube) l = g at *
  have HCH := Lib.hid (fun (w1 : World) (n : Nat) (hb : Below w.heap.size w w1) (hpl : PlI w1 w.heap.size n (plF (l.map absOf) (pairsB p))) => chosen_any (keepR p g) 59 #[.pointer (some ⟨w1.heap.size, 0, none⟩), .pointer (some ⟨w1.heap.size + 1, 0, none⟩)] (.slice la l.length lc) l
    ((w1.alloc (.cells #[.map (some w.heap.size)] 87)).alloc (.cells #[.int .i64 g] 3)) red_enters (fun W hW x hx => by
      have c1 : W.cell? ⟨w1.heap.size, 0, none⟩ = some (.map (some w.heap.size)) := (hW.cell (p := ⟨w1.heap.size, 0, none⟩) (by simp; omega)).trans (cell_old (cell_fresh rfl))
      have c2 : W.cell? ⟨w1.heap.size + 1, 0, none⟩ = some (.int .i64 g) := (hW.cell (p := ⟨w1.heap.size + 1, 0, none⟩) (by simp)).trans (cell_fresh2 rfl)
      have hp2 : PlI W w.heap.size n (plF (l.map absOf) (pairsB p)) := hpl.below ((((Below.refl w1.heap.size w1).alloc (Nat.le_refl _) _).alloc (by simp) _).trans (hW.mono (by simp; omega))) (Nat.le_refl _)
      exact (redc_any w.heap.size n _ _ p _ x g W hp2 (List.mem_map_of_mem hx) (H64.out x hx).1 (H64.out x hx).2 c1 c2).mono fun e w' h => ⟨h.1, h.2.below _⟩)
    (HL.below ((hb.alloc hb.size _).alloc (by have := hb.size; simp; omega) _) (Nat.le_refl _)) hl)
  clear HP HL hl hp
  go_enter Tryz.func23, Tryz.ntmps23
  go_wp2_with (first
    | (go_at_call 56; refine HPO.out.mono ?_; rintro e w1 ⟨rfl, ⟨n, hpl⟩, hb1⟩; have HPL1 := Lib.hid hpl; have HB1 := Lib.hid hb1; clear hpl hb1)
    | (go_at_call 57; refine (HX.out _ n (HB1.out.alloc HB1.out.size _) (HPL1.out.below ((Below.refl _ w1).alloc (Nat.le_refl _) _) (Nat.le_refl _))).mono ?_; rintro e w2 ⟨rfl, rfl⟩)
    | (go_at_call 58; refine (HCH.out w1 n HB1.out HPL1.out).mono ?_; rintro e w3 ⟨v, rfl, hown, hb3⟩))
  go_ret
  have hsz := HB1.out.size
  exact ⟨v, rfl, hown.mono (by simp; omega), ((HB1.out.alloc hsz _).alloc (by simp; omega) _).trans (hb3.mono (by simp; omega))⟩

end Go.Proofs.YtmiijgjpkkmoaaaGreat

/- prefix.Find. -/
namespace Go.Proofs.YtmiijgjpkkmoaaaGreat
open Go.RowKit Go.Shelf
set_option linter.unusedVariables false
set_option linter.unusedSimpArgs false
attribute [local go_sem] Oper.semAt_some

def findL (p : List Blk) (v : Int) : Nat × Bool × Bool := match (pairsB p).find? (fun x => x.2 == v) with
  | some x => (x.1, (p.getD x.1 dB).1, true)
  | none => (0, false, false)

theorem cell_far (w : World) {B b : Nat} (o : Nat) (u : Value) (h : ¬ B = b) : (w.setCell ⟨B, 0, none⟩ u).cell? ⟨b, o, none⟩ = w.cell? ⟨b, o, none⟩ := World.cell?_setCell_other w _ _ u (fun e => h (by injection e))
theorem frozen_far (w : World) {B b : Nat} (o : Nat) (u : Value) : (w.setCell ⟨B, 0, none⟩ u).frozen? ⟨b, o, none⟩ = w.frozen? ⟨b, o, none⟩ := by rw [World.frozen?_setCell]
theorem drew_cell (w : World) (a : Addr) : w.drew.cell? a = w.cell? a := rfl
theorem drew_frozen (w : World) (a : Addr) : w.drew.frozen? a = w.frozen? a := rfl
attribute [local go_sem] cell_far frozen_far drew_cell drew_frozen
theorem Boxed.drewX {W : World} {B : Nat} {t : TypeId} {v : Value} (h : Boxed W B t v) : Boxed W.drew B t v := h

/-- What the statement 'return i, p[i].Exists, true' leaves, in whatever order. -/
def FindSt (n : Nat) (w W : World) (i : Nat) (e : Bool) (w' : World) : Prop :=
  KeepsOthers W w' ∧ Boxed w' (n + 1 + 1) 3 (.int .i64 (i : Int)) ∧ Boxed w' (n + 1 + 1 + 1) 4 (.bool e) ∧ Boxed w' (n + 1 + 1 + 1 + 1) 4 (.bool true) ∧ Below n w w'
def OnlyN2 (Q : World → Prop) : Exit → Act → World → Prop
  | .normal, a, w => a.defers = [] ∧ Q w
  | _, _, _ => False

set_option maxRecDepth 100000 in
set_option maxHeartbeats 6400000 in
theorem find_any (vp : Value) (p : List Blk) (v : Int) (w : World) (HP : IsBlocks w vp p) :
    Calls Tryz.prog 54 #[vp, .int .i64 v] w fun e w' => e = .returned (.tuple #[.int .i64 ((findL p v).1 : Int), .bool (findL p v).2.1, .bool (findL p v).2.2]) ∧ Below w.heap.size w w' := by
  refine (callsIn_wide (n := 5)).1 ?_
  have HPP := Lib.hid HP
  obtain ⟨a, cap, rfl, hlp⟩ := HP.shape
  have q0 := Boxed.new w 22 (.slice a p.length cap)
  have q1 := Boxed.new (w.alloc (.cells #[.slice a p.length cap] 22)) 3 (.int .i64 v)
  have q2 := Boxed.new ((w.alloc (.cells #[.slice a p.length cap] 22)).alloc (.cells #[.int .i64 v] 3)) 3 (.int .i64 0)
  have q3 := Boxed.new (((w.alloc (.cells #[.slice a p.length cap] 22)).alloc (.cells #[.int .i64 v] 3)).alloc (.cells #[.int .i64 0] 3)) 4 (.bool false)
  have q4 := Boxed.new ((((w.alloc (.cells #[.slice a p.length cap] 22)).alloc (.cells #[.int .i64 v] 3)).alloc (.cells #[.int .i64 0] 3)).alloc (.cells #[.bool false] 4)) 4 (.bool false)
  simp only [World.size_alloc] at q1 q2 q3 q4
  have b0 := (((q0.alloc (.cells #[.int .i64 v] 3)).alloc (.cells #[.int .i64 0] 3)).alloc (.cells #[.bool false] 4)).alloc (.cells #[.bool false] 4)
  have b1 := ((q1.alloc (.cells #[.int .i64 0] 3)).alloc (.cells #[.bool false] 4)).alloc (.cells #[.bool false] 4)
  have b2 := (q2.alloc (.cells #[.bool false] 4)).alloc (.cells #[.bool false] 4)
  have b3 := q3.alloc (.cells #[.bool false] 4)
  have hB5 : Below w.heap.size w (((((w.alloc (.cells #[.slice a p.length cap] 22)).alloc (.cells #[.int .i64 v] 3)).alloc (.cells #[.int .i64 0] 3)).alloc (.cells #[.bool false] 4)).alloc (.cells #[.bool false] 4)) :=
    (((((Below.refl _ w).alloc (Nat.le_refl _) _).alloc (by simp) _).alloc (by simp; omega) _).alloc (by simp; omega) _).alloc (by simp; omega) _
  have hz5 : (((((w.alloc (.cells #[.slice a p.length cap] 22)).alloc (.cells #[.int .i64 v] 3)).alloc (.cells #[.int .i64 0] 3)).alloc (.cells #[.bool false] 4)).alloc (.cells #[.bool false] 4)).heap.size = w.heap.size + 5 := by simp
  have C0 := Lib.hid b0
  have C1 := Lib.hid b1
  have C2 := Lib.hid b2
  have C3 := Lib.hid b3
  have C4 := Lib.hid q4
  have HB5 := Lib.hid hB5
  have HZ5 := Lib.hid hz5
  have c0 := b0.cell
  have hF93 : Fence.wide.fn 61 := trivial
  clear HP q0 q1 q2 q3 q4 b0 b1 b2 b3 hB5 hz5
  refine callsIn_of_wp_marks Tryz.func54 rfl trivial ?_ rfl
  simp only [Tryz.ntmps54, List.size_toArray, List.length_cons, List.length_nil, Nat.reduceAdd, Nat.reduceSub, Array.replicate_succ, Array.replicate_zero, List.push_toArray, List.append_toArray, List.nil_append, List.cons_append]
  gi_wp2_with (gi_at_call 61; refine (vars_in _ _ _ _ _).mono ?_; rintro e w1 ⟨rfl, rfl⟩)
  generalize hw5 : (((((w.alloc (.cells #[.slice a p.length cap] 22)).alloc (.cells #[.int .i64 v] 3)).alloc (.cells #[.int .i64 0] 3)).alloc (.cells #[.bool false] 4)).alloc (.cells #[.bool false] 4)) = w5 at *
  clear hw5 c0
  have hz5 := HZ5.out
  have HB6 := Lib.hid (HB5.out.alloc HB5.out.size (.cells #[.slice a p.length cap] 22))
  have hsz6 : (w5.alloc (.cells #[.slice a p.length cap] 22)).heap.size = w.heap.size + 6 := by simp [hz5]
  have bF := Boxed.new w5 22 (.slice a p.length cap)
  rw [hz5] at bF
  refine wpIn_rangeFunc_ownF rfl (by omega) (gf := 80) (lb := #[.pointer (some ⟨w.heap.size + 5, 0, none⟩)]) rfl trivial (enters_of Tryz.func80 (by kernel_rfl) rfl)
    (vars_stops 4 (by omega) (w.heap.size + 5) w (w5.alloc (.cells #[.slice a p.length cap] 22)) _ p HPP.out HB6.out (by simp [hz5]) bF.cell) belowK_t (belowK_b (by simp [hz5]; omega)) (Below.refl _ _) (fun _ => rfl)
    (fun pre W => (((∀ y ∈ pre, y.1.2 ≠ v) ∧ Boxed W w.heap.size 22 (.slice a p.length cap) ∧ Boxed W (w.heap.size + 1) 3 (.int .i64 v)) ∧ (Boxed W (w.heap.size + 1 + 1) 3 (.int .i64 0) ∧ Boxed W (w.heap.size + 1 + 1 + 1) 4 (.bool false) ∧ Boxed W (w.heap.size + 1 + 1 + 1 + 1) 4 (.bool false))) ∧ Below w.heap.size w W)
    (fun c pre W => ((c = .ret ∧ (pairsB p = pairsB p → pre.map (fun x => x.1) <+: pairsB p → True)) ∧ (∃ x : VI p.length, (∃ q, pre = q ++ [x] ∧ (∀ y ∈ q, y.1.2 ≠ v)) ∧ x.1.2 = v ∧ Boxed W (w.heap.size + 1 + 1) 3 (.int .i64 (x.1.1 : Int)) ∧ Boxed W (w.heap.size + 1 + 1 + 1) 4 (.bool (p.getD x.1.1 dB).1) ∧ Boxed W (w.heap.size + 1 + 1 + 1 + 1) 4 (.bool true))) ∧ Below w.heap.size w W)
    (OwnFrom.and (Go.Own.from (fun s A B row hs hg hr => by
      obtain ⟨⟨h1, h2, h3⟩, h4, h5, h6⟩ := hs
      have K := fun (B' : Nat) (t : TypeId) (u : Value) (h : Boxed A B' t u) => boxed_own B' t (fun _ : Unit => u) () A B row h hg hr
      exact ⟨⟨h1, K _ _ _ h2, K _ _ _ h3⟩, K _ _ _ h4, K _ _ _ h5, K _ _ _ h6⟩) _) (ownFrom_below (Nat.le_refl _) (by rw [hsz6]; omega)))
    (fun c => OwnFrom.and (Go.Own.from (fun s A B row hs hg hr => by
      obtain ⟨h1, x, hq, hv, h4, h5, h6⟩ := hs
      have K := fun (B' : Nat) (t : TypeId) (u : Value) (h : Boxed A B' t u) => boxed_own B' t (fun _ : Unit => u) () A B row h hg hr
      exact ⟨h1, x, hq, hv, K _ _ _ h4, K _ _ _ h5, K _ _ _ h6⟩) _) (ownFrom_below (Nat.le_refl _) (by rw [hsz6]; omega)))
    ⟨⟨⟨by simp, C0.out.alloc _, C1.out.alloc _⟩, C2.out.alloc _, C3.out.alloc _, C4.out.alloc _⟩, HB6.out⟩
    (fun x => { tmps := #[.slice a p.length cap, .int .i64 v, .pointer (some ⟨w.heap.size, 0, none⟩), .pointer (some ⟨w.heap.size + 1, 0, none⟩), .pointer (some ⟨w.heap.size + 1 + 1, 0, none⟩), .pointer (some ⟨w.heap.size + 1 + 1 + 1, 0, none⟩), .pointer (some ⟨w.heap.size + 1 + 1 + 1 + 1, 0, none⟩), .int .i64 (x.1.1 : Int), .int .i64 x.1.2, .slice a p.length cap, .func (.func 80) #[] #[.pointer (some ⟨w.heap.size + 5, 0, none⟩)], .int .i64 (x.1.1 : Int), .int .i64 x.1.2, undef, undef, undef, undef, undef, undef, undef, undef, undef], defers := [] }) ?assign ?body ?done ?stop
  case assign =>
    intro l x W K hK
    gi_wp2
    exact hK
  case body =>
    rintro lp pre ⟨⟨i, u⟩, hx⟩ W ⟨⟨⟨hne, h0, h1⟩, h2, h3, h4⟩, hbel⟩ hN
    simp only at hx ⊢
    have HP2 := HPP.out.at hx.1
    obtain ⟨b, off, u2, rfl, hb, hcx0, _, _⟩ := HP2
    have hcx := (hbel.cell (p := ⟨b, off + i * 2, none⟩) hb).trans hcx0
    have HB := Lib.hid hbel
    have HNE := Lib.hid hne
    have K0 := Lib.hid h0
    have K1 := Lib.hid h1
    have K2 := Lib.hid h2
    have K3 := Lib.hid h3
    have K4 := Lib.hid h4
    have d1 := h1.cell
    clear hbel hne hcx0 h0 h1 h2 h3 h4
    by_cases huv : u = v
    · subst huv
      have hbb : (u == u) = true := by simp
      have HXL := Lib.hid hx.1
      have hi1 : (i : Int) < (p.length : Int) := by have := hx.1; omega
      have hi0 : (0 : Int) ≤ (i : Int) := by omega
      have d0 : W.cell? ⟨w.heap.size, 0, none⟩ = some (.slice (some ⟨b, off, none⟩) p.length cap) := K0.out.cell
      have d2 : W.cell? ⟨w.heap.size + 1 + 1, 0, none⟩ = some (.int .i64 0) := K2.out.cell
      have f2 : W.frozen? ⟨w.heap.size + 1 + 1, 0, none⟩ = false := K2.out.frozen
      have d3 : W.cell? ⟨w.heap.size + 1 + 1 + 1, 0, none⟩ = some (.bool false) := K3.out.cell
      have f3 : W.frozen? ⟨w.heap.size + 1 + 1 + 1, 0, none⟩ = false := K3.out.frozen
      have d4 : W.cell? ⟨w.heap.size + 1 + 1 + 1 + 1, 0, none⟩ = some (.bool false) := K4.out.cell
      have f4 : W.frozen? ⟨w.heap.size + 1 + 1 + 1 + 1, 0, none⟩ = false := K4.out.frozen
      have hcd : W.cell? ⟨b, off + i * 2, none⟩ = some (.bool (p.getD i dB).1) := hcx
      have ne2 : ¬ w.heap.size + 1 + 1 = b := by omega
      have ne3 : ¬ w.heap.size + 1 + 1 + 1 = b := by omega
      have ne4 : ¬ w.heap.size + 1 + 1 + 1 + 1 = b := by omega
      have hmo : Tryz.prog.follows .mixedOrders = true := by kernel_rfl
      gi_wp2_with fail
      have HCD := Lib.hid hcx
      clear hcx
      generalize hpe : (p.getD i dB).1 = e at hcd
      refine wpIn_mono (Q := OnlyN2 (FindSt w.heap.size w W i e)) ?reg ?after
      case reg =>
        gi_region_with_o (fail)
        all_goals
          refine ⟨rfl, ?_, ?_, ?_, ?_, ?_⟩
          · repeat (first | with_reducible exact KeepsOthers.refl _ | with_reducible exact KeepsOthers.drew _ | with_reducible refine KeepsOthers.trans ?_ (KeepsOthers.setCell _ _ _) | with_reducible refine KeepsOthers.trans ?_ (KeepsOthers.drew _))
          · repeat (first | with_reducible exact K2.out | with_reducible refine Boxed.drewX ?_ | (with_reducible refine Boxed.set (v := .int .i64 0) _ ?_) | (with_reducible refine Boxed.other ?_ ?_ _; rotate_left; omega))
          · repeat (first | with_reducible exact K3.out | with_reducible refine Boxed.drewX ?_ | (with_reducible refine Boxed.set (v := .bool false) _ ?_) | (with_reducible refine Boxed.other ?_ ?_ _; rotate_left; omega))
          · repeat (first | with_reducible exact K4.out | with_reducible refine Boxed.drewX ?_ | (with_reducible refine Boxed.set (v := .bool false) _ ?_) | (with_reducible refine Boxed.other ?_ ?_ _; rotate_left; omega))
          · repeat (first | with_reducible exact HB.out | with_reducible refine Below.drew ?_ | (with_reducible refine Below.setCell ?_ ?_ _; rotate_left; (simp; omega)))
      case after =>
        rintro en a' w' h
        cases en with
        | normal =>
          obtain ⟨ha, h1, h2, h3, h4, h5⟩ := h
          obtain ⟨tm, df⟩ := a'
          simp only at ha
          subst ha
          rw [← hpe] at h3
          gi_wp2
          exact ⟨h1, ⟨⟨rfl, fun _ _ => trivial⟩, ⟨⟨(i, u), hx⟩, ⟨pre, rfl, HNE.out⟩, rfl, h2, h3, h4⟩⟩, h5⟩
        | _ => exact h.elim
    · have hne2 : (u == v) = false := by simpa using huv
      have HU := Lib.hid huv
      clear huv
      gi_wp2
      exact ⟨KeepsOthers.refl _, Below.refl _ _, ⟨⟨fun y hy => (List.mem_append.1 hy).elim (HNE.out y) (fun e => by simp at e; subst e; exact HU.out), K0.out, K1.out⟩, K2.out, K3.out, K4.out⟩, HB.out⟩
  case done =>
    rintro D ys W hD hys ⟨⟨⟨hne, h0, h1⟩, h2, h3, h4⟩, hbel⟩ hK
    have d2 := h2.cell
    have f2 := h2.frozen
    have d3 := h3.cell
    have f3 := h3.frozen
    have d4 := h4.cell
    have f4 := h4.frozen
    gi_wp2
    have e2 := ((h2.set (.int .i64 0)).other (B' := w.heap.size + 1 + 1 + 1) (by omega) (.bool false)).other (B' := w.heap.size + 1 + 1 + 1 + 1) (by omega) (.bool false)
    have e3 := ((h3.other (B' := w.heap.size + 1 + 1) (by omega) (.int .i64 0)).set (.bool false)).other (B' := w.heap.size + 1 + 1 + 1 + 1) (by omega) (.bool false)
    have e4 := ((h4.other (B' := w.heap.size + 1 + 1) (by omega) (.int .i64 0)).other (B' := w.heap.size + 1 + 1 + 1) (by omega) (.bool false)).set (.bool false)
    have hK' := (((KeepsOthers.setCell W ⟨w.heap.size + 1 + 1, 0, none⟩ (.int .i64 0)).trans (KeepsOthers.setCell _ ⟨w.heap.size + 1 + 1 + 1, 0, none⟩ (.bool false))).trans (KeepsOthers.setCell _ ⟨w.heap.size + 1 + 1 + 1 + 1, 0, none⟩ (.bool false))).same D _ hK rfl
    have hbe := ((hbel.setCell (p := ⟨w.heap.size + 1 + 1, 0, none⟩) (by simp; omega) (.int .i64 0)).setCell (p := ⟨w.heap.size + 1 + 1 + 1, 0, none⟩) (by simp; omega) (.bool false)).setCell (p := ⟨w.heap.size + 1 + 1 + 1 + 1, 0, none⟩) (by simp; omega) (.bool false)
    generalize ((W.setCell ⟨w.heap.size + 1 + 1, 0, none⟩ (.int .i64 0)).setCell ⟨w.heap.size + 1 + 1 + 1, 0, none⟩ (.bool false)).setCell ⟨w.heap.size + 1 + 1 + 1 + 1, 0, none⟩ (.bool false) = W3 at *
    rw [hsz6] at hD
    refine ⟨by simp, .inl ⟨_, _, rfl, run_takeDeferred hK', ?_⟩⟩
    have g2 := (e2.kept (grownBy_putObj' W3 D (.deferred none)) (fun e => by injection e; omega)).cell
    have g3 := (e3.kept (grownBy_putObj' W3 D (.deferred none)) (fun e => by injection e; omega)).cell
    have g4 := (e4.kept (grownBy_putObj' W3 D (.deferred none)) (fun e => by injection e; omega)).cell
    have hfl : findL p v = (0, false, false) := by
      unfold findL
      rw [List.find?_eq_none.2]
      intro x hx
      rw [← hys] at hx
      obtain ⟨y, hy, rfl⟩ := List.mem_map.1 hx
      simpa using hne y hy
    refine ⟨.tuple #[.int .i64 0, .bool false, .bool false], by simp [results, Tryz.f54, go_sem, g2, g3, g4], ?_, hbe.trans (belowK_b (w := w) (Nat.le_refl _) W3 D _ _ (by omega) hK' rfl rfl)⟩
    rw [hfl]
    rfl
  case stop =>
    rintro D c pre W hD hpre ⟨⟨⟨rfl, _⟩, x, ⟨q, rfl, hq⟩, hxv, h2, h3, h4⟩, hbel⟩ hK
    gi_wp2
    rw [hsz6] at hD
    refine ⟨by simp, .inl ⟨_, _, rfl, run_takeDeferred hK, ?_⟩⟩
    have g2 := (h2.kept (grownBy_putObj' W D (.deferred none)) (fun e => by injection e; omega)).cell
    have g3 := (h3.kept (grownBy_putObj' W D (.deferred none)) (fun e => by injection e; omega)).cell
    have g4 := (h4.kept (grownBy_putObj' W D (.deferred none)) (fun e => by injection e; omega)).cell
    have hfl : findL p v = (x.1.1, (p.getD x.1.1 dB).1, true) := by
      unfold findL
      rw [List.map_append] at hpre
      obtain ⟨r, hr⟩ := hpre
      rw [← hr, List.find?_append, List.find?_append, List.find?_eq_none.2]
      · simp [hxv]
      · intro z hz
        obtain ⟨y, hy, rfl⟩ := List.mem_map.1 hz
        simpa using hq y hy
    refine ⟨.tuple #[.int .i64 (x.1.1 : Int), .bool (p.getD x.1.1 dB).1, .bool true], by simp [results, Tryz.f54, go_sem, g2, g3, g4], ?_, hbel.trans (belowK_b (w := w) (Nat.le_refl _) W D _ _ (by omega) hK rfl rfl)⟩
    rw [hfl]

end Go.Proofs.YtmiijgjpkkmoaaaGreat
