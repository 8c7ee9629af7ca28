/- Joined texts: CxOver. -/
import Derived.Test.YticcikelapifaaaK19
import Derived.Test.YticcikelapifaaaK16
import Derived.Test.YticcikelapifaaaK02
/- The law's over and within. -/
namespace Go.Proofs.Yticcikelapifaaa
open Go.RowKit Go.Maps Go.Shelf
set_option linter.unusedVariables false
set_option linter.unusedSimpArgs false

theorem insO_at : ∀ (l : List Int) (x : Int) (k : Nat), k ≤ l.length → (∀ j, j < k → varC (l.getD j 0) < varC x) → (k < l.length → ¬ varC (l.getD k 0) < varC x) →
    insO l x = if k < l.length ∧ varC (l.getD k 0) = varC x then l else l.take k ++ [x] ++ l.drop k
  | [], x, k, hk, _, _ => by
    obtain rfl : k = 0 := by simpa using hk
    simp [insO]
  | y :: r, x, 0, hk, h1, h2 => by
    have h3 : ¬ varC y < varC x := by simpa using h2 (by simp)
    unfold insO
    rw [if_neg h3]
    by_cases he : varC y = varC x
    · rw [if_pos he, if_pos ⟨by simp, by simpa using he⟩]
    · rw [if_neg he, if_neg (fun h => he (by simpa using h.2))]
      simp
  | y :: r, x, k + 1, hk, h1, h2 => by
    have h3 : varC y < varC x := by simpa using h1 0 (by omega)
    have ih := insO_at r x k (by simpa using hk) (fun j hj => by simpa using h1 (j + 1) (by omega)) (fun hkl => by simpa using h2 (by simpa using hkl))
    unfold insO
    rw [if_pos h3, ih]
    by_cases hc : k < r.length ∧ varC (r.getD k 0) = varC x
    · rw [if_pos hc, if_pos ⟨by simpa using hc.1, by simpa using hc.2⟩]
    · rw [if_neg hc, if_neg (fun h => hc ⟨by simpa using h.1, by simpa using h.2⟩)]
      simp
theorem insO_len (l : List Int) (x : Int) : (insO l x).length ≤ l.length + 1 := by
  induction l with
  | nil => simp [insO]
  | cons y r ih =>
    unfold insO
    split
    · simp; omega
    · split <;> simp
theorem foldO_len : ∀ (m l : List Int), (m.foldl insO l).length ≤ l.length + m.length
  | [], l => by simp
  | x :: r, l => by
    have h1 := foldO_len r (insO l x)
    have h2 := insO_len l x
    simp only [List.foldl_cons, List.length_cons]
    omega
theorem overL_len (a b : List Int) : (overL a b).length ≤ b.length + a.length := by have := foldO_len (b ++ a) []; simpa [overL] using this
theorem own_hit {w : World} {B : Nat} {v : Value} {xs : List Int} (h : Own w B v xs) {k : Nat} (hk : k < xs.length) : ∃ g c, v = .slice (some ⟨g, 0, none⟩) xs.length c ∧ w.cell? ⟨g, k, none⟩ = some (.int .i64 (xs.getD k 0)) := by
  have h0 : w.ownsRow B 3 1 v xs.length (xs.map (Value.int .i64)) := h
  rcases h.2 with ⟨rfl, h2⟩ | ⟨g, cap, cur, rfl, hB, hg, hnc, hcm, _, _⟩
  · omega
  · refine ⟨g, cap, rfl, ?_⟩
    rw [World.ownsRow.cellAt h0 k (by omega)]
    simp [hk, List.getD]
set_option maxRecDepth 100000 in
/-- 'append(s, x...)' over integers, nil or not, in a region that draws its order. -/
theorem step_appI2 {ops : Array Oper} {o : Oper} {a : Act} {w : World} {K : Act → World → Prop} {Q : Exit → Act → World → Prop} {E : Prop} (d : Option Tmp) (hd : o.dst = d) (hgd : o.guard = none) (s x : Operand)
    (ho : o.op = .call { callee := .builtin .append, args := #[s, x], argTypes := #[28, 28] }) (B : Nat) (v u : Value) (xs ys : List Int)
    (hs : a.eval s = v) (hx : a.eval x = u) (hown : Own w B v xs) (hu : IsInts w u ys) (hlen : xs.length + ys.length ≤ 17592186044416) (hB : B ≤ w.heap.size)
    (h : ∀ v' w', Own w' B v' (xs ++ ys) → w.grownBy w' v.ownBlock → K (a.put d v') w') :
    if Region.wanted o (yielded ops a.tmps) = true then Oper.wp Try.prog o a w K Q else E := by
  subst hd
  have hw : Region.wanted o (yielded ops a.tmps) = true := by simp [Region.wanted, hgd]
  rw [if_pos hw]
  obtain ⟨i0, hi, hz0, hz1, hz2⟩ := info_parts info_int
  obtain ⟨ad, cap, rfl, hcap, _, _, h64, b, off, ha, hc⟩ := hu
  cases ad with
  | none =>
    have hy : ys = [] := by
      by_cases e : ys = []
      · exact e
      · have := (ha e).1; cases this
    subst hy
    have hcap0 := hcap.2 rfl
    subst hcap0
    have hrun := run_append_owned_none (P := Try.prog) (w := w) B 28 o.type 3 i0 1 Try.underlying28 hi v xs.length _ hown
    unfold Oper.wp
    simp [execOp, ho, resolve, invoke, builtin, hs, hx, hrun, Result.andThen]
    exact h v w (by rw [List.append_nil]; exact hown) (World.grownBy.refl _ _)
  | some ad =>
    obtain ⟨v', w', hr, h2, h3, h4, h5⟩ := run_append_own_at (P := Try.prog) w B 28 o.type 3 i0 (.int .i64 0) 1 8 Try.underlying28 hi hz0 hz1 hz2 rfl (by decide) v xs.length _ hown ad ys.length cap (ys.map (Value.int .i64)) (by simp) (fun j u hj => by
      have hlt : j < ys.length := by have := (List.getElem?_eq_some_iff.1 hj).1; simpa using this
      have hne : ys ≠ [] := by intro e; simp [e] at hlt
      have e := Option.some.inj (ha hne).1
      subst e
      rw [Addr.add_lit, hc j hlt, ← hj]
      simp [List.getD, hlt]) (ints_oneCell _ _) (by unfold maxLen; omega) (by omega) hB
    unfold Oper.wp execOp
    simp only [ho, resolve, invoke, builtin, Sem.run_bind, Sem.run_pure, Result.andThen_ok, List.map_toArray, List.map_cons, List.map_nil, hs, hx, hr]
    refine h v' w' ?_ h3
    unfold Own
    rw [List.length_append, List.map_append]
    exact h2
theorem one_ints {X : World} {q : Nat} {x : Int} (h : X.heap[q]? = some (.cells #[.int .i64 x] 3 (0, 0))) (h1 : -9223372036854775808 ≤ x) (h2 : x ≤ 9223372036854775807) : IsInts X (.slice (some ⟨q, 0, none⟩) 1 1) [x] :=
  ints_heap [x] h (by intro y hy; rw [List.mem_singleton] at hy; subst hy; exact ⟨h1, h2⟩) (by simp)
theorem one_kept {X Y : World} {q : Nat} {row : Option Nat} {o : Obj} (h : X.heap[q]? = some o) (hg : X.grownBy Y row) (hne : row ≠ some q) : Y.heap[q]? = some o := (hg.block q (Array.getElem?_eq_some_iff.1 h).1 (fun e => hne e.symm)).trans h
theorem one_alloc {X : World} {q : Nat} {o : Obj} (h : X.heap[q]? = some o) (o' : Obj) : (X.alloc o').heap[q]? = some o := (Below.heap_alloc _ _ _ (Array.getElem?_eq_some_iff.1 h).1).trans h
theorem varC_range {x : Int} (h : 1 ≤ varC x ∧ varC x ≤ 65536) : -9223372036854775808 ≤ x ∧ x ≤ 9223372036854775807 := by
  unfold varC at h
  split at h
  · split at h <;> omega
  · omega
theorem Own.to {w : World} {B : Nat} {v : Value} {xs ys : List Int} (h : Own w B v xs) (e : ys = xs) : Own w B v ys := e ▸ h
set_option maxHeartbeats 6400000 in
set_option maxRecDepth 100000 in
theorem over5_any (va vb : Value) (a b : List Int) (w : World) (HA : IsInts w va a) (HB : IsInts w vb b) (ha : varIn a) (hb : varIn b) (hal : a.length ≤ 4000000) (hbl : b.length ≤ 4000000) :
    Calls Try.prog 35 #[va, vb] w (RetOwn w (overL a b)) := by
  have HAI := Lib.hid HA
  have HBI := Lib.hid HB
  obtain ⟨aa, ac, rfl⟩ := HA.shape
  obtain ⟨ba, bc, rfl⟩ := HB.shape
  obtain ⟨T, hT⟩ : ∃ T, b ++ a = T := ⟨_, rfl⟩
  have HOV : Hid (overL a b = T.foldl insO []) := by show _ = _; rw [← hT]; rfl
  have hTv : varIn T := fun x hx => by
    rw [← hT] at hx
    rcases List.mem_append.1 hx with h | h
    · exact hb x h
    · exact ha x h
  have hTl : T.length ≤ 8000000 := by rw [← hT, List.length_append]; omega
  have HTV := Lib.hid hTv
  have HTL := Lib.hid hTl
  have HTE := Lib.hid hT
  have hAbs : ∀ (x : Int) (X : World), (1 ≤ varC x ∧ varC x ≤ 65536) → Calls Try.prog 38 #[.int .i64 x] X fun e w' => e = .returned (.int .i64 (varC x)) ∧ X = w' := fun x X h => by
    have h9 := abs5_any x X (varC_range h).1 (varC_range h).2
    rw [abs5_var (by omega)] at h9
    exact h9
  have HABS := Lib.hid hAbs
  clear HA HB ha hb hT hTv hTl hAbs
  go_enter Try.func35, Try.ntmps35
  go_wp2_with (first
    | (at_builtin; go_loud (refine wpList_app rfl (.tmp 10) (.tmp 11) rfl w.heap.size (.slice (some ⟨w.heap.size, 0, none⟩) 0 0) _ [] b rfl rfl (Own.built3 (Nat.le_refl _)) (HBI.out.below (below_new _ _) (Nat.le_refl _)) (by simp; omega) (by simp) ?_; intro v1 w1 ho1 hg1; have HO1 : Hid (Own w1 w.heap.size v1 b) := ho1; have HB1 : Hid (Below w.heap.size w w1) := (below_new w (.cells #[] 3)).grown hg1 (by simp) (fun g hg => by simp [Value.ownBlock] at hg; omega); clear ho1 hg1))
    | (at_builtin; go_loud (refine wpList_app rfl (.tmp 12) (.tmp 13) rfl w.heap.size v1 _ b a rfl rfl HO1.out (HAI.out.below HB1.out (Nat.le_refl _)) (by omega) HB1.out.size ?_; intro v2 w2 ho2 hg2; have HO2 : Hid (Own w2 w.heap.size v2 T) := ho2.to HTE.out.symm; have HB2 : Hid (Below w.heap.size w w2) := HB1.out.grown hg2 HB1.out.size (fun g hg => (HO1.out.lt g hg).1); clear ho2 hg2; obtain ⟨ta, tc, rfl⟩ := own_shC HO2.out)))
  have HTI : Hid (IsInts w2 (.slice ta T.length tc) T) := HO2.out.ints (by have := HTL.out; omega) (fun x hx => varC_range (HTV.out x hx))
  go_loopw [5, 16] (fun out i wr => ∃ k : Nat, k ≤ T.length ∧ i = .int .i64 k ∧ Own wr w2.heap.size out ((T.take k).foldl insO []) ∧ Below w2.heap.size w2 wr) (fun _ i _ => T.length - (intOf i).toNat)
  case atStart => exact ⟨0, Nat.zero_le _, rfl, Own.nil _ _, Below.refl _ _⟩
  case round =>
    obtain ⟨k, hk, rfl, hown, hbel⟩ := hrel
    have HB := Lib.hid hbel
    by_cases hlt : k < T.length
    · obtain ⟨b0, off, rfl, hb0c, hc0⟩ := HTI.out.cellY hlt
      have hc := (HB.out.cell (p := ⟨b0, off + k, none⟩) hb0c).trans hc0
      have HTK : Hid ((T.take (k + 1)).foldl insO [] = insO ((T.take k).foldl insO []) (T.getD k 0)) := by
        show _ = _
        rw [List.take_succ_eq_append_getElem hlt, List.foldl_append]
        simp [List.getD, hlt]
      have hxv := HTV.out (T.getD k 0) (by simp [List.getD, hlt])
      have hLV : varIn ((T.take k).foldl insO []) := fun z hz => by
        have := (foldO (T.take k) [] List.Pairwise.nil).2.2 z hz
        exact HTV.out z (List.mem_of_mem_take (by simpa using this))
      have hLL : ((T.take k).foldl insO []).length ≤ 8000000 := by
        have h1 := foldO_len (T.take k) []
        have h2 := HTL.out
        simp at h1
        omega
      have HINS := Lib.hid (insO_at ((T.take k).foldl insO []) (T.getD k 0))
      have hk0 : (0 : Int) ≤ (k : Int) := by omega
      have hk1 : (k : Int) < (T.length : Int) := by omega
      have HKL := Lib.hid hlt
      have hk2 : (k : Int) < 8000001 := by have := HTL.out; omega
      have HLV := Lib.hid hLV
      have HLL := Lib.hid hLL
      have HOWN := Lib.hid hown
      clear hlt hc0 hk hown hbel hLV hLL
      generalize (T.take k).foldl insO [] = L at *
      generalize T.getD k 0 = x at *
      have hx1 := (varC_range hxv).1
      have hx2 := (varC_range hxv).2
      have HLI : Hid (IsInts wr _ L) := HOWN.out.ints (by have := HLL.out; omega) (fun z hz => varC_range (HLV.out z hz))
      obtain ⟨oa, oc, rfl⟩ := own_shC HOWN.out
      have HAX := Lib.hid (fun X => HABS.out x X hxv)
      have hl8 := HLL.out
      go_wp2_with (go_at_call 38; refine (HAX.out _).mono ?_; rintro e w3 ⟨rfl, rfl⟩)
      go_loop [9] (fun i => ∃ j : Nat, j ≤ L.length ∧ i = .int .i64 j ∧ Hid (∀ q, q < j → varC (L.getD q 0) < varC x)) (fun i => L.length - (intOf i).toNat)
      case atStart => exact ⟨0, Nat.zero_le _, rfl, fun q hq => absurd hq (Nat.not_lt_zero _)⟩
      case round =>
        obtain ⟨j, hj, rfl, HJ⟩ := hrel
        by_cases hjl : j < L.length
        · obtain ⟨b1, off1, rfl, hb1c, hc1⟩ := HLI.out.cellY hjl
          have hj0 : (0 : Int) ≤ (j : Int) := by omega
          have hj1 : (j : Int) < (L.length : Int) := by omega
          have hj2 : (j : Int) < 8000001 := by omega
          have HAY := Lib.hid (fun X => HABS.out (L.getD j 0) X (HLV.out _ (by simp [List.getD, hjl])))
          by_cases hv : varC (L.getD j 0) < varC x
          · have HJ2 : Hid (∀ q, q < j + 1 → varC (L.getD q 0) < varC x) := fun q hq => by
              by_cases e : q = j
              · rw [e]; exact hv
              · exact HJ.out q (by omega)
            have HJL := Lib.hid hjl
            clear hjl
            generalize varC (L.getD j 0) = vy at *
            generalize L.getD j 0 = y at *
            go_wp2_with (go_at_call 38; refine (HAY.out _).mono ?_; rintro e w4 ⟨rfl, rfl⟩)
            go_round
            case rel => exact ⟨j + 1, HJL.out, by go_num, HJ2.out⟩
            case measure => have := HJL.out; simp [intOf]; omega
          · have HIN := Lib.hid (HINS.out j hj HJ.out (fun _ => by omega))
            have hvb : decide (varC (L.getD j 0) < varC x) = false := by rw [decide_eq_false_iff_not]; exact hv
            by_cases he : varC (L.getD j 0) = varC x
            · have HLS : Hid ((T.take (k + 1)).foldl insO [] = L) := by show _ = _; rw [HTK.out, HIN.out, if_pos ⟨hjl, he⟩]
              have heb : (varC (L.getD j 0) == varC x) = true := by simpa using he
              clear hv he HIN hjl
              generalize varC (L.getD j 0) = vy at *
              generalize L.getD j 0 = y at *
              go_wp2_with (go_at_call 38; refine (HAY.out _).mono ?_; rintro e w4 ⟨rfl, rfl⟩)
              go_roundw
              case rel => exact ⟨k + 1, HKL.out, by go_num, HOWN.out.to HLS.out, HB.out⟩
              case measure => have := HKL.out; simp [intOf]; omega
            · have HLS : Hid ((T.take (k + 1)).foldl insO [] = L.take j ++ [x] ++ L.drop j) := by show _ = _; rw [HTK.out, HIN.out, if_neg (fun h => he h.2)]
              have heb : (varC (L.getD j 0) == varC x) = false := by simpa using he
              have HSL : Hid (∀ X, Below wr.heap.size wr X → IsInts X (.slice (some ⟨b1, off1, none⟩) j oc) (L.take j)) := fun X hX => (HLI.out.below hX (Nat.le_refl _)).upto (by omega)
              have HSR : Hid (∀ X, Below wr.heap.size wr X → IsInts X (.slice (if oc = j then some ⟨b1, off1, none⟩ else some ⟨b1, off1 + j, none⟩) (L.length - j) (oc - j)) (L.drop j)) := fun X hX => (HLI.out.below hX (Nat.le_refl _)).from (by omega) rfl
              have hcap : L.length ≤ oc ∧ oc ≤ 9223372036854775807 := by obtain ⟨_, _, e, ⟨h1, _⟩, h2, _⟩ := HLI.out; injection e with _ _ e; subst e; exact ⟨h1, h2⟩
              have z2 : (j : Int) ≤ (L.length : Int) := by omega
              have z3 : (L.length : Int) ≤ (oc : Int) := by omega
              have z4 : (j : Int) ≤ (oc : Int) := by omega
              clear hv he HIN hjl
              generalize varC (L.getD j 0) = vy at *
              generalize L.getD j 0 = y at *
              go_wp2_with (go_at_call 38; refine (HAY.out _).mono ?_; rintro e w4 ⟨rfl, rfl⟩)
              refine wp_region_held_drew (S := fun wx => Below wr.heap.size wr wx) (by kernel_rfl) (Below.refl _ _).drew (fun hHeld => ?_)
              have hb0 : Below wr.heap.size wr wr.drew := (Below.refl _ _).drew
              generalize wr.drew = wd at *
              refine takeC (i := 1) (v := .slice (some ⟨b1, off1, none⟩) L.length oc) (some 51) rfl rfl (by kernel_rfl) (by kernel_rfl) (by kernel_rfl) (fun _ _ _ h => h) (Or.inl ⟨by rfl, ?_⟩) (by assumption) ?_
              · intro wz hSw; go_simp
              try simp only [Act.put, List.setIfInBounds_toArray, List.set_cons_zero, List.set_cons_succ]
              refine takeC (i := 2) (v := .int .i64 (j : Int)) (some 52) rfl rfl (by kernel_rfl) (by kernel_rfl) (by kernel_rfl) (fun _ _ _ h => h) (Or.inl ⟨by rfl, ?_⟩) (by assumption) ?_
              · intro wz hSw; go_simp
              try simp only [Act.put, List.setIfInBounds_toArray, List.set_cons_zero, List.set_cons_succ]
              refine takeC (i := 3) (v := .slice (some ⟨b1, off1, none⟩) j oc) (some 53) rfl rfl (by kernel_rfl) (by kernel_rfl) (by kernel_rfl) (fun _ _ _ h => h) (Or.inl ⟨by rfl, ?_⟩) (by assumption) ?_
              · intro wz hSw; go_simp
              try simp only [Act.put, List.setIfInBounds_toArray, List.set_cons_zero, List.set_cons_succ]
              refine takeC (i := 5) (v := .int .i64 x) (some 55) rfl rfl (by kernel_rfl) (by kernel_rfl) (by kernel_rfl) (fun _ _ _ h => h) (Or.inl ⟨by rfl, ?_⟩) (by assumption) ?_
              · intro wz hSw; go_simp
              try simp only [Act.put, List.setIfInBounds_toArray, List.set_cons_zero, List.set_cons_succ]
              refine takeC (i := 8) (v := .slice (some ⟨b1, off1, none⟩) L.length oc) (some 58) rfl rfl (by kernel_rfl) (by kernel_rfl) (by kernel_rfl) (fun _ _ _ h => h) (Or.inl ⟨by rfl, ?_⟩) (by assumption) ?_
              · intro wz hSw; go_simp
              try simp only [Act.put, List.setIfInBounds_toArray, List.set_cons_zero, List.set_cons_succ]
              refine takeC (i := 9) (v := .int .i64 (j : Int)) (some 59) rfl rfl (by kernel_rfl) (by kernel_rfl) (by kernel_rfl) (fun _ _ _ h => h) (Or.inl ⟨by rfl, ?_⟩) (by assumption) ?_
              · intro wz hSw; go_simp
              try simp only [Act.put, List.setIfInBounds_toArray, List.set_cons_zero, List.set_cons_succ]
              refine takeC (i := 10) (v := .slice (if oc = j then some ⟨b1, off1, none⟩ else some ⟨b1, off1 + j, none⟩) (L.length - j) (oc - j)) (some 60) rfl rfl (by kernel_rfl) (by kernel_rfl) (by kernel_rfl) (fun _ _ _ h => h) (Or.inl ⟨by rfl, ?_⟩) (by assumption) ?_
              · intro wz hSw; go_simp
              try simp only [Act.put, List.setIfInBounds_toArray, List.set_cons_zero, List.set_cons_succ]
              refine wpAnyH_ready (rs := [0, 6]) (by kernel_rfl) (by simp) ?_
              refine AllReadyH.cons rfl (fun K hK => ?_) (AllReadyH.cons rfl (fun K hK => ?_) AllReadyH.nil)
              · go_simp
                refine hK.out _ _ (hb0.alloc hb0.size _) (fun hHA => ?_)
                clear hK K
                try simp only [Act.put, List.setIfInBounds_toArray, List.set_cons_zero, List.set_cons_succ]
                have hbA : Below wr.heap.size wr (wd.alloc (.cells #[] 3)) := hb0.alloc hb0.size _
                have hzA : wd.heap.size < (wd.alloc (.cells #[] 3)).heap.size := by simp
                have hwA : Own (wd.alloc (.cells #[] 3)) wr.heap.size (.slice (some ⟨wd.heap.size, 0, none⟩) 0 0) [] := Own.built3 hb0.size
                generalize wd.alloc (.cells #[] 3) = xA at *
                refine wpAnyH_ready (rs := [4, 6]) (by kernel_rfl) (by simp) ?_
                refine AllReadyH.cons rfl (fun K hK => ?_) (AllReadyH.cons rfl (fun K hK => ?_) AllReadyH.nil)
                · refine step_appI2 (some 54) rfl rfl (.tmp 50) (.tmp 53) rfl wr.heap.size (.slice (some ⟨wd.heap.size, 0, none⟩) 0 0) (.slice (some ⟨b1, off1, none⟩) j oc) [] (L.take j) rfl rfl hwA (HSL.out _ hbA) (by simp <;> omega) hbA.size ?_
                  intro v4 w4 ho4x hg4
                  have hb4 : Below wr.heap.size wr w4 := hbA.grown hg4 hbA.size (fun g hg => (hwA.lt g hg).1)
                  have ho4 : Own w4 wr.heap.size v4 (L.take j) := ho4x
                  refine hK.out _ _ hb4 (fun hH4 => ?_)
                  clear hK K
                  try simp only [Act.put, List.setIfInBounds_toArray, List.set_cons_zero, List.set_cons_succ]
                  refine wpAnyH_ready (rs := [6]) (by kernel_rfl) (by simp) ?_
                  refine AllReadyH.cons rfl (fun K hK => ?_) AllReadyH.nil
                  go_simp
                  refine hK.out _ _ (hb4.alloc hb4.size _) (fun hHC => ?_)
                  clear hK K
                  try simp only [Act.put, List.setIfInBounds_toArray, List.set_cons_zero, List.set_cons_succ]
                  have hbC : Below wr.heap.size wr (w4.alloc (.cells #[.int .i64 x] 3)) := hb4.alloc hb4.size _
                  have hzC : w4.heap.size < (w4.alloc (.cells #[.int .i64 x] 3)).heap.size := by simp
                  have hoC : (w4.alloc (.cells #[.int .i64 x] 3)).heap[w4.heap.size]? = some (.cells #[.int .i64 x] 3 (0, 0)) := heap_hit rfl
                  have ho42 := ho4.alloc (.cells #[.int .i64 x] 3)
                  generalize w4.alloc (.cells #[.int .i64 x] 3) = xC at *
                  refine wpAnyH_ready (rs := [7]) (by kernel_rfl) (by simp) ?_
                  refine AllReadyH.cons rfl (fun K hK => ?_) AllReadyH.nil
                  refine step_appI2 (some 57) rfl rfl (.tmp 54) (.tmp 56) rfl wr.heap.size v4 (.slice (some ⟨w4.heap.size, 0, none⟩) 1 1) (L.take j) [x] rfl rfl ho42 (one_ints hoC hx1 hx2) (by simp <;> omega) hbC.size ?_
                  intro v7 w7 ho7x hg7
                  have hb7 : Below wr.heap.size wr w7 := hbC.grown hg7 hbC.size (fun g hg => (ho42.lt g hg).1)
                  have ho7 : Own w7 wr.heap.size v7 ((L.take j) ++ [x]) := ho7x
                  refine hK.out _ _ hb7 (fun hH7 => ?_)
                  clear hK K
                  try simp only [Act.put, List.setIfInBounds_toArray, List.set_cons_zero, List.set_cons_succ]
                  refine wpAnyH_ready (rs := [11]) (by kernel_rfl) (by simp) ?_
                  refine AllReadyH.cons rfl (fun K hK => ?_) AllReadyH.nil
                  refine step_appI2 (some 61) rfl rfl (.tmp 57) (.tmp 60) rfl wr.heap.size v7 (.slice (if oc = j then some ⟨b1, off1, none⟩ else some ⟨b1, off1 + j, none⟩) (L.length - j) (oc - j)) ((L.take j) ++ [x]) (L.drop j) rfl rfl ho7 (HSR.out _ hb7) (by simp <;> omega) hb7.size ?_
                  intro v11 w11 ho11x hg11
                  have hb11 : Below wr.heap.size wr w11 := hb7.grown hg11 hb7.size (fun g hg => (ho7.lt g hg).1)
                  have ho11 : Own w11 wr.heap.size v11 ((L.take j) ++ [x] ++ (L.drop j)) := ho11x
                  refine hK.out _ _ hb11 (fun hH11 => ?_)
                  clear hK K
                  try simp only [Act.put, List.setIfInBounds_toArray, List.set_cons_zero, List.set_cons_succ]
                  refine takeC (i := 12) (v := v11) (some 5) rfl rfl (by kernel_rfl) (by kernel_rfl) (by kernel_rfl) (fun _ _ _ h => h) (Or.inl ⟨by rfl, ?_⟩) (by assumption) ?_
                  · intro wz hSw; go_simp
                  try simp only [Act.put, List.setIfInBounds_toArray, List.set_cons_zero, List.set_cons_succ]
                  refine wpAnyH_done (by kernel_rfl) ?_ _
                  go_wp2
                  go_roundw
                  case rel => exact ⟨k + 1, HKL.out, by go_num, (ho11.mono HB.out.size).to HLS.out, HB.out.trans (hb11.mono HB.out.size)⟩
                  case measure => have := HKL.out; simp [intOf]; omega
                · go_simp
                  refine hK.out _ _ (hbA.alloc hbA.size _) (fun hHC => ?_)
                  clear hK K
                  try simp only [Act.put, List.setIfInBounds_toArray, List.set_cons_zero, List.set_cons_succ]
                  have hbC : Below wr.heap.size wr (xA.alloc (.cells #[.int .i64 x] 3)) := hbA.alloc hbA.size _
                  have hzC : xA.heap.size < (xA.alloc (.cells #[.int .i64 x] 3)).heap.size := by simp
                  have hoC : (xA.alloc (.cells #[.int .i64 x] 3)).heap[xA.heap.size]? = some (.cells #[.int .i64 x] 3 (0, 0)) := heap_hit rfl
                  have hwA2 := hwA.alloc (.cells #[.int .i64 x] 3)
                  generalize xA.alloc (.cells #[.int .i64 x] 3) = xC at *
                  refine wpAnyH_ready (rs := [4]) (by kernel_rfl) (by simp) ?_
                  refine AllReadyH.cons rfl (fun K hK => ?_) AllReadyH.nil
                  refine step_appI2 (some 54) rfl rfl (.tmp 50) (.tmp 53) rfl wr.heap.size (.slice (some ⟨wd.heap.size, 0, none⟩) 0 0) (.slice (some ⟨b1, off1, none⟩) j oc) [] (L.take j) rfl rfl hwA2 (HSL.out _ hbC) (by simp <;> omega) hbC.size ?_
                  intro v4 w4 ho4x hg4
                  have hb4 : Below wr.heap.size wr w4 := hbC.grown hg4 hbC.size (fun g hg => (hwA2.lt g hg).1)
                  have ho4 : Own w4 wr.heap.size v4 (L.take j) := ho4x
                  refine hK.out _ _ hb4 (fun hH4 => ?_)
                  clear hK K
                  try simp only [Act.put, List.setIfInBounds_toArray, List.set_cons_zero, List.set_cons_succ]
                  have hoD := one_kept hoC hg4 (by simp [Value.ownBlock]; omega)
                  refine wpAnyH_ready (rs := [7]) (by kernel_rfl) (by simp) ?_
                  refine AllReadyH.cons rfl (fun K hK => ?_) AllReadyH.nil
                  refine step_appI2 (some 57) rfl rfl (.tmp 54) (.tmp 56) rfl wr.heap.size v4 (.slice (some ⟨xA.heap.size, 0, none⟩) 1 1) (L.take j) [x] rfl rfl ho4 (one_ints hoD hx1 hx2) (by simp <;> omega) hb4.size ?_
                  intro v7 w7 ho7x hg7
                  have hb7 : Below wr.heap.size wr w7 := hb4.grown hg7 hb4.size (fun g hg => (ho4.lt g hg).1)
                  have ho7 : Own w7 wr.heap.size v7 ((L.take j) ++ [x]) := ho7x
                  refine hK.out _ _ hb7 (fun hH7 => ?_)
                  clear hK K
                  try simp only [Act.put, List.setIfInBounds_toArray, List.set_cons_zero, List.set_cons_succ]
                  refine wpAnyH_ready (rs := [11]) (by kernel_rfl) (by simp) ?_
                  refine AllReadyH.cons rfl (fun K hK => ?_) AllReadyH.nil
                  refine step_appI2 (some 61) rfl rfl (.tmp 57) (.tmp 60) rfl wr.heap.size v7 (.slice (if oc = j then some ⟨b1, off1, none⟩ else some ⟨b1, off1 + j, none⟩) (L.length - j) (oc - j)) ((L.take j) ++ [x]) (L.drop j) rfl rfl ho7 (HSR.out _ hb7) (by simp <;> omega) hb7.size ?_
                  intro v11 w11 ho11x hg11
                  have hb11 : Below wr.heap.size wr w11 := hb7.grown hg11 hb7.size (fun g hg => (ho7.lt g hg).1)
                  have ho11 : Own w11 wr.heap.size v11 ((L.take j) ++ [x] ++ (L.drop j)) := ho11x
                  refine hK.out _ _ hb11 (fun hH11 => ?_)
                  clear hK K
                  try simp only [Act.put, List.setIfInBounds_toArray, List.set_cons_zero, List.set_cons_succ]
                  refine takeC (i := 12) (v := v11) (some 5) rfl rfl (by kernel_rfl) (by kernel_rfl) (by kernel_rfl) (fun _ _ _ h => h) (Or.inl ⟨by rfl, ?_⟩) (by assumption) ?_
                  · intro wz hSw; go_simp
                  try simp only [Act.put, List.setIfInBounds_toArray, List.set_cons_zero, List.set_cons_succ]
                  refine wpAnyH_done (by kernel_rfl) ?_ _
                  go_wp2
                  go_roundw
                  case rel => exact ⟨k + 1, HKL.out, by go_num, (ho11.mono HB.out.size).to HLS.out, HB.out.trans (hb11.mono HB.out.size)⟩
                  case measure => have := HKL.out; simp [intOf]; omega
              · go_simp
                refine hK.out _ _ (hb0.alloc hb0.size _) (fun hHB => ?_)
                clear hK K
                try simp only [Act.put, List.setIfInBounds_toArray, List.set_cons_zero, List.set_cons_succ]
                have hbB : Below wr.heap.size wr (wd.alloc (.cells #[.int .i64 x] 3)) := hb0.alloc hb0.size _
                have hzB : wd.heap.size < (wd.alloc (.cells #[.int .i64 x] 3)).heap.size := by simp
                have hoB : (wd.alloc (.cells #[.int .i64 x] 3)).heap[wd.heap.size]? = some (.cells #[.int .i64 x] 3 (0, 0)) := heap_hit rfl
                generalize wd.alloc (.cells #[.int .i64 x] 3) = xB at *
                refine wpAnyH_ready (rs := [0]) (by kernel_rfl) (by simp) ?_
                refine AllReadyH.cons rfl (fun K hK => ?_) AllReadyH.nil
                go_simp
                refine hK.out _ _ (hbB.alloc hbB.size _) (fun hHA => ?_)
                clear hK K
                try simp only [Act.put, List.setIfInBounds_toArray, List.set_cons_zero, List.set_cons_succ]
                have hbA : Below wr.heap.size wr (xB.alloc (.cells #[] 3)) := hbB.alloc hbB.size _
                have hzA : xB.heap.size < (xB.alloc (.cells #[] 3)).heap.size := by simp
                have hwA : Own (xB.alloc (.cells #[] 3)) wr.heap.size (.slice (some ⟨xB.heap.size, 0, none⟩) 0 0) [] := Own.built3 hbB.size
                have hoB2 := one_alloc hoB (.cells #[] 3)
                generalize xB.alloc (.cells #[] 3) = xA at *
                refine wpAnyH_ready (rs := [4]) (by kernel_rfl) (by simp) ?_
                refine AllReadyH.cons rfl (fun K hK => ?_) AllReadyH.nil
                refine step_appI2 (some 54) rfl rfl (.tmp 50) (.tmp 53) rfl wr.heap.size (.slice (some ⟨xB.heap.size, 0, none⟩) 0 0) (.slice (some ⟨b1, off1, none⟩) j oc) [] (L.take j) rfl rfl hwA (HSL.out _ hbA) (by simp <;> omega) hbA.size ?_
                intro v4 w4 ho4x hg4
                have hb4 : Below wr.heap.size wr w4 := hbA.grown hg4 hbA.size (fun g hg => (hwA.lt g hg).1)
                have ho4 : Own w4 wr.heap.size v4 (L.take j) := ho4x
                refine hK.out _ _ hb4 (fun hH4 => ?_)
                clear hK K
                try simp only [Act.put, List.setIfInBounds_toArray, List.set_cons_zero, List.set_cons_succ]
                have hoD := one_kept hoB2 hg4 (by simp [Value.ownBlock]; omega)
                refine wpAnyH_ready (rs := [7]) (by kernel_rfl) (by simp) ?_
                refine AllReadyH.cons rfl (fun K hK => ?_) AllReadyH.nil
                refine step_appI2 (some 57) rfl rfl (.tmp 54) (.tmp 56) rfl wr.heap.size v4 (.slice (some ⟨wd.heap.size, 0, none⟩) 1 1) (L.take j) [x] rfl rfl ho4 (one_ints hoD hx1 hx2) (by simp <;> omega) hb4.size ?_
                intro v7 w7 ho7x hg7
                have hb7 : Below wr.heap.size wr w7 := hb4.grown hg7 hb4.size (fun g hg => (ho4.lt g hg).1)
                have ho7 : Own w7 wr.heap.size v7 ((L.take j) ++ [x]) := ho7x
                refine hK.out _ _ hb7 (fun hH7 => ?_)
                clear hK K
                try simp only [Act.put, List.setIfInBounds_toArray, List.set_cons_zero, List.set_cons_succ]
                refine wpAnyH_ready (rs := [11]) (by kernel_rfl) (by simp) ?_
                refine AllReadyH.cons rfl (fun K hK => ?_) AllReadyH.nil
                refine step_appI2 (some 61) rfl rfl (.tmp 57) (.tmp 60) rfl wr.heap.size v7 (.slice (if oc = j then some ⟨b1, off1, none⟩ else some ⟨b1, off1 + j, none⟩) (L.length - j) (oc - j)) ((L.take j) ++ [x]) (L.drop j) rfl rfl ho7 (HSR.out _ hb7) (by simp <;> omega) hb7.size ?_
                intro v11 w11 ho11x hg11
                have hb11 : Below wr.heap.size wr w11 := hb7.grown hg11 hb7.size (fun g hg => (ho7.lt g hg).1)
                have ho11 : Own w11 wr.heap.size v11 ((L.take j) ++ [x] ++ (L.drop j)) := ho11x
                refine hK.out _ _ hb11 (fun hH11 => ?_)
                clear hK K
                try simp only [Act.put, List.setIfInBounds_toArray, List.set_cons_zero, List.set_cons_succ]
                refine takeC (i := 12) (v := v11) (some 5) rfl rfl (by kernel_rfl) (by kernel_rfl) (by kernel_rfl) (fun _ _ _ h => h) (Or.inl ⟨by rfl, ?_⟩) (by assumption) ?_
                · intro wz hSw; go_simp
                try simp only [Act.put, List.setIfInBounds_toArray, List.set_cons_zero, List.set_cons_succ]
                refine wpAnyH_done (by kernel_rfl) ?_ _
                go_wp2
                go_roundw
                case rel => exact ⟨k + 1, HKL.out, by go_num, (ho11.mono HB.out.size).to HLS.out, HB.out.trans (hb11.mono HB.out.size)⟩
                case measure => have := HKL.out; simp [intOf]; omega
        · have HIN := Lib.hid (HINS.out j hj HJ.out (fun h => absurd h hjl))
          have HLS : Hid ((T.take (k + 1)).foldl insO [] = L.take j ++ [x] ++ L.drop j) := by show _ = _; rw [HTK.out, HIN.out, if_neg (fun h => hjl h.1)]
          have hje : j = L.length := by omega
          have hjb : decide ((j : Int) < (L.length : Int)) = false := by simp; omega
          rcases HOWN.out.2 with ⟨e, _⟩ | ⟨g, cap, cur, e, _⟩
          · injection e with e1 e2 e3
            subst e1
            subst e3
            obtain rfl : L = [] := List.eq_nil_of_length_eq_zero e2
            obtain rfl : j = 0 := by simpa using hje
            have HLS0 : Hid ((T.take (k + 1)).foldl insO [] = [] ++ [x] ++ []) := HLS.out
            have HSL : Hid (∀ X, Below wr.heap.size wr X → IsInts X (.slice none 0 0) ([] : List Int)) := fun X hX => IsInts.nil X
            have HSR := HSL
            clear hje hjl HIN HLS HINS HJ hj e2 HLV hl8 HLL
            go_wp2_with fail
            refine wp_region_held_drew (S := fun wx => Below wr.heap.size wr wx) (by kernel_rfl) (Below.refl _ _).drew (fun hHeld => ?_)
            have hb0 : Below wr.heap.size wr wr.drew := (Below.refl _ _).drew
            generalize wr.drew = wd at *
            refine takeC (i := 1) (v := .slice none 0 0) (some 51) rfl rfl (by kernel_rfl) (by kernel_rfl) (by kernel_rfl) (fun _ _ _ h => h) (Or.inl ⟨by rfl, ?_⟩) (by assumption) ?_
            · intro wz hSw; go_simp
            try simp only [Act.put, List.setIfInBounds_toArray, List.set_cons_zero, List.set_cons_succ]
            refine takeC (i := 2) (v := .int .i64 0) (some 52) rfl rfl (by kernel_rfl) (by kernel_rfl) (by kernel_rfl) (fun _ _ _ h => h) (Or.inl ⟨by rfl, ?_⟩) (by assumption) ?_
            · intro wz hSw; go_simp
            try simp only [Act.put, List.setIfInBounds_toArray, List.set_cons_zero, List.set_cons_succ]
            refine takeC (i := 3) (v := .slice none 0 0) (some 53) rfl rfl (by kernel_rfl) (by kernel_rfl) (by kernel_rfl) (fun _ _ _ h => h) (Or.inl ⟨by rfl, ?_⟩) (by assumption) ?_
            · intro wz hSw; go_simp
            try simp only [Act.put, List.setIfInBounds_toArray, List.set_cons_zero, List.set_cons_succ]
            refine takeC (i := 5) (v := .int .i64 x) (some 55) rfl rfl (by kernel_rfl) (by kernel_rfl) (by kernel_rfl) (fun _ _ _ h => h) (Or.inl ⟨by rfl, ?_⟩) (by assumption) ?_
            · intro wz hSw; go_simp
            try simp only [Act.put, List.setIfInBounds_toArray, List.set_cons_zero, List.set_cons_succ]
            refine takeC (i := 8) (v := .slice none 0 0) (some 58) rfl rfl (by kernel_rfl) (by kernel_rfl) (by kernel_rfl) (fun _ _ _ h => h) (Or.inl ⟨by rfl, ?_⟩) (by assumption) ?_
            · intro wz hSw; go_simp
            try simp only [Act.put, List.setIfInBounds_toArray, List.set_cons_zero, List.set_cons_succ]
            refine takeC (i := 9) (v := .int .i64 0) (some 59) rfl rfl (by kernel_rfl) (by kernel_rfl) (by kernel_rfl) (fun _ _ _ h => h) (Or.inl ⟨by rfl, ?_⟩) (by assumption) ?_
            · intro wz hSw; go_simp
            try simp only [Act.put, List.setIfInBounds_toArray, List.set_cons_zero, List.set_cons_succ]
            refine takeC (i := 10) (v := .slice none 0 0) (some 60) rfl rfl (by kernel_rfl) (by kernel_rfl) (by kernel_rfl) (fun _ _ _ h => h) (Or.inl ⟨by rfl, ?_⟩) (by assumption) ?_
            · intro wz hSw; go_simp
            try simp only [Act.put, List.setIfInBounds_toArray, List.set_cons_zero, List.set_cons_succ]
            refine wpAnyH_ready (rs := [0, 6]) (by kernel_rfl) (by simp) ?_
            refine AllReadyH.cons rfl (fun K hK => ?_) (AllReadyH.cons rfl (fun K hK => ?_) AllReadyH.nil)
            · go_simp
              refine hK.out _ _ (hb0.alloc hb0.size _) (fun hHA => ?_)
              clear hK K
              try simp only [Act.put, List.setIfInBounds_toArray, List.set_cons_zero, List.set_cons_succ]
              have hbA : Below wr.heap.size wr (wd.alloc (.cells #[] 3)) := hb0.alloc hb0.size _
              have hzA : wd.heap.size < (wd.alloc (.cells #[] 3)).heap.size := by simp
              have hwA : Own (wd.alloc (.cells #[] 3)) wr.heap.size (.slice (some ⟨wd.heap.size, 0, none⟩) 0 0) [] := Own.built3 hb0.size
              generalize wd.alloc (.cells #[] 3) = xA at *
              refine wpAnyH_ready (rs := [4, 6]) (by kernel_rfl) (by simp) ?_
              refine AllReadyH.cons rfl (fun K hK => ?_) (AllReadyH.cons rfl (fun K hK => ?_) AllReadyH.nil)
              · refine step_appI2 (some 54) rfl rfl (.tmp 50) (.tmp 53) rfl wr.heap.size (.slice (some ⟨wd.heap.size, 0, none⟩) 0 0) (.slice none 0 0) [] ([] : List Int) rfl rfl hwA (HSL.out _ hbA) (by simp <;> omega) hbA.size ?_
                intro v4 w4 ho4x hg4
                have hb4 : Below wr.heap.size wr w4 := hbA.grown hg4 hbA.size (fun g hg => (hwA.lt g hg).1)
                have ho4 : Own w4 wr.heap.size v4 ([] : List Int) := ho4x
                refine hK.out _ _ hb4 (fun hH4 => ?_)
                clear hK K
                try simp only [Act.put, List.setIfInBounds_toArray, List.set_cons_zero, List.set_cons_succ]
                refine wpAnyH_ready (rs := [6]) (by kernel_rfl) (by simp) ?_
                refine AllReadyH.cons rfl (fun K hK => ?_) AllReadyH.nil
                go_simp
                refine hK.out _ _ (hb4.alloc hb4.size _) (fun hHC => ?_)
                clear hK K
                try simp only [Act.put, List.setIfInBounds_toArray, List.set_cons_zero, List.set_cons_succ]
                have hbC : Below wr.heap.size wr (w4.alloc (.cells #[.int .i64 x] 3)) := hb4.alloc hb4.size _
                have hzC : w4.heap.size < (w4.alloc (.cells #[.int .i64 x] 3)).heap.size := by simp
                have hoC : (w4.alloc (.cells #[.int .i64 x] 3)).heap[w4.heap.size]? = some (.cells #[.int .i64 x] 3 (0, 0)) := heap_hit rfl
                have ho42 := ho4.alloc (.cells #[.int .i64 x] 3)
                generalize w4.alloc (.cells #[.int .i64 x] 3) = xC at *
                refine wpAnyH_ready (rs := [7]) (by kernel_rfl) (by simp) ?_
                refine AllReadyH.cons rfl (fun K hK => ?_) AllReadyH.nil
                refine step_appI2 (some 57) rfl rfl (.tmp 54) (.tmp 56) rfl wr.heap.size v4 (.slice (some ⟨w4.heap.size, 0, none⟩) 1 1) ([] : List Int) [x] rfl rfl ho42 (one_ints hoC hx1 hx2) (by simp <;> omega) hbC.size ?_
                intro v7 w7 ho7x hg7
                have hb7 : Below wr.heap.size wr w7 := hbC.grown hg7 hbC.size (fun g hg => (ho42.lt g hg).1)
                have ho7 : Own w7 wr.heap.size v7 (([] : List Int) ++ [x]) := ho7x
                refine hK.out _ _ hb7 (fun hH7 => ?_)
                clear hK K
                try simp only [Act.put, List.setIfInBounds_toArray, List.set_cons_zero, List.set_cons_succ]
                refine wpAnyH_ready (rs := [11]) (by kernel_rfl) (by simp) ?_
                refine AllReadyH.cons rfl (fun K hK => ?_) AllReadyH.nil
                refine step_appI2 (some 61) rfl rfl (.tmp 57) (.tmp 60) rfl wr.heap.size v7 (.slice none 0 0) (([] : List Int) ++ [x]) ([] : List Int) rfl rfl ho7 (HSR.out _ hb7) (by simp <;> omega) hb7.size ?_
                intro v11 w11 ho11x hg11
                have hb11 : Below wr.heap.size wr w11 := hb7.grown hg11 hb7.size (fun g hg => (ho7.lt g hg).1)
                have ho11 : Own w11 wr.heap.size v11 (([] : List Int) ++ [x] ++ ([] : List Int)) := ho11x
                refine hK.out _ _ hb11 (fun hH11 => ?_)
                clear hK K
                try simp only [Act.put, List.setIfInBounds_toArray, List.set_cons_zero, List.set_cons_succ]
                refine takeC (i := 12) (v := v11) (some 5) rfl rfl (by kernel_rfl) (by kernel_rfl) (by kernel_rfl) (fun _ _ _ h => h) (Or.inl ⟨by rfl, ?_⟩) (by assumption) ?_
                · intro wz hSw; go_simp
                try simp only [Act.put, List.setIfInBounds_toArray, List.set_cons_zero, List.set_cons_succ]
                refine wpAnyH_done (by kernel_rfl) ?_ _
                go_wp2
                go_roundw
                case rel => exact ⟨k + 1, HKL.out, by go_num, (ho11.mono HB.out.size).to HLS0.out, HB.out.trans (hb11.mono HB.out.size)⟩
                case measure => have := HKL.out; simp [intOf]; omega
              · go_simp
                refine hK.out _ _ (hbA.alloc hbA.size _) (fun hHC => ?_)
                clear hK K
                try simp only [Act.put, List.setIfInBounds_toArray, List.set_cons_zero, List.set_cons_succ]
                have hbC : Below wr.heap.size wr (xA.alloc (.cells #[.int .i64 x] 3)) := hbA.alloc hbA.size _
                have hzC : xA.heap.size < (xA.alloc (.cells #[.int .i64 x] 3)).heap.size := by simp
                have hoC : (xA.alloc (.cells #[.int .i64 x] 3)).heap[xA.heap.size]? = some (.cells #[.int .i64 x] 3 (0, 0)) := heap_hit rfl
                have hwA2 := hwA.alloc (.cells #[.int .i64 x] 3)
                generalize xA.alloc (.cells #[.int .i64 x] 3) = xC at *
                refine wpAnyH_ready (rs := [4]) (by kernel_rfl) (by simp) ?_
                refine AllReadyH.cons rfl (fun K hK => ?_) AllReadyH.nil
                refine step_appI2 (some 54) rfl rfl (.tmp 50) (.tmp 53) rfl wr.heap.size (.slice (some ⟨wd.heap.size, 0, none⟩) 0 0) (.slice none 0 0) [] ([] : List Int) rfl rfl hwA2 (HSL.out _ hbC) (by simp <;> omega) hbC.size ?_
                intro v4 w4 ho4x hg4
                have hb4 : Below wr.heap.size wr w4 := hbC.grown hg4 hbC.size (fun g hg => (hwA2.lt g hg).1)
                have ho4 : Own w4 wr.heap.size v4 ([] : List Int) := ho4x
                refine hK.out _ _ hb4 (fun hH4 => ?_)
                clear hK K
                try simp only [Act.put, List.setIfInBounds_toArray, List.set_cons_zero, List.set_cons_succ]
                have hoD := one_kept hoC hg4 (by simp [Value.ownBlock]; omega)
                refine wpAnyH_ready (rs := [7]) (by kernel_rfl) (by simp) ?_
                refine AllReadyH.cons rfl (fun K hK => ?_) AllReadyH.nil
                refine step_appI2 (some 57) rfl rfl (.tmp 54) (.tmp 56) rfl wr.heap.size v4 (.slice (some ⟨xA.heap.size, 0, none⟩) 1 1) ([] : List Int) [x] rfl rfl ho4 (one_ints hoD hx1 hx2) (by simp <;> omega) hb4.size ?_
                intro v7 w7 ho7x hg7
                have hb7 : Below wr.heap.size wr w7 := hb4.grown hg7 hb4.size (fun g hg => (ho4.lt g hg).1)
                have ho7 : Own w7 wr.heap.size v7 (([] : List Int) ++ [x]) := ho7x
                refine hK.out _ _ hb7 (fun hH7 => ?_)
                clear hK K
                try simp only [Act.put, List.setIfInBounds_toArray, List.set_cons_zero, List.set_cons_succ]
                refine wpAnyH_ready (rs := [11]) (by kernel_rfl) (by simp) ?_
                refine AllReadyH.cons rfl (fun K hK => ?_) AllReadyH.nil
                refine step_appI2 (some 61) rfl rfl (.tmp 57) (.tmp 60) rfl wr.heap.size v7 (.slice none 0 0) (([] : List Int) ++ [x]) ([] : List Int) rfl rfl ho7 (HSR.out _ hb7) (by simp <;> omega) hb7.size ?_
                intro v11 w11 ho11x hg11
                have hb11 : Below wr.heap.size wr w11 := hb7.grown hg11 hb7.size (fun g hg => (ho7.lt g hg).1)
                have ho11 : Own w11 wr.heap.size v11 (([] : List Int) ++ [x] ++ ([] : List Int)) := ho11x
                refine hK.out _ _ hb11 (fun hH11 => ?_)
                clear hK K
                try simp only [Act.put, List.setIfInBounds_toArray, List.set_cons_zero, List.set_cons_succ]
                refine takeC (i := 12) (v := v11) (some 5) rfl rfl (by kernel_rfl) (by kernel_rfl) (by kernel_rfl) (fun _ _ _ h => h) (Or.inl ⟨by rfl, ?_⟩) (by assumption) ?_
                · intro wz hSw; go_simp
                try simp only [Act.put, List.setIfInBounds_toArray, List.set_cons_zero, List.set_cons_succ]
                refine wpAnyH_done (by kernel_rfl) ?_ _
                go_wp2
                go_roundw
                case rel => exact ⟨k + 1, HKL.out, by go_num, (ho11.mono HB.out.size).to HLS0.out, HB.out.trans (hb11.mono HB.out.size)⟩
                case measure => have := HKL.out; simp [intOf]; omega
            · go_simp
              refine hK.out _ _ (hb0.alloc hb0.size _) (fun hHB => ?_)
              clear hK K
              try simp only [Act.put, List.setIfInBounds_toArray, List.set_cons_zero, List.set_cons_succ]
              have hbB : Below wr.heap.size wr (wd.alloc (.cells #[.int .i64 x] 3)) := hb0.alloc hb0.size _
              have hzB : wd.heap.size < (wd.alloc (.cells #[.int .i64 x] 3)).heap.size := by simp
              have hoB : (wd.alloc (.cells #[.int .i64 x] 3)).heap[wd.heap.size]? = some (.cells #[.int .i64 x] 3 (0, 0)) := heap_hit rfl
              generalize wd.alloc (.cells #[.int .i64 x] 3) = xB at *
              refine wpAnyH_ready (rs := [0]) (by kernel_rfl) (by simp) ?_
              refine AllReadyH.cons rfl (fun K hK => ?_) AllReadyH.nil
              go_simp
              refine hK.out _ _ (hbB.alloc hbB.size _) (fun hHA => ?_)
              clear hK K
              try simp only [Act.put, List.setIfInBounds_toArray, List.set_cons_zero, List.set_cons_succ]
              have hbA : Below wr.heap.size wr (xB.alloc (.cells #[] 3)) := hbB.alloc hbB.size _
              have hzA : xB.heap.size < (xB.alloc (.cells #[] 3)).heap.size := by simp
              have hwA : Own (xB.alloc (.cells #[] 3)) wr.heap.size (.slice (some ⟨xB.heap.size, 0, none⟩) 0 0) [] := Own.built3 hbB.size
              have hoB2 := one_alloc hoB (.cells #[] 3)
              generalize xB.alloc (.cells #[] 3) = xA at *
              refine wpAnyH_ready (rs := [4]) (by kernel_rfl) (by simp) ?_
              refine AllReadyH.cons rfl (fun K hK => ?_) AllReadyH.nil
              refine step_appI2 (some 54) rfl rfl (.tmp 50) (.tmp 53) rfl wr.heap.size (.slice (some ⟨xB.heap.size, 0, none⟩) 0 0) (.slice none 0 0) [] ([] : List Int) rfl rfl hwA (HSL.out _ hbA) (by simp <;> omega) hbA.size ?_
              intro v4 w4 ho4x hg4
              have hb4 : Below wr.heap.size wr w4 := hbA.grown hg4 hbA.size (fun g hg => (hwA.lt g hg).1)
              have ho4 : Own w4 wr.heap.size v4 ([] : List Int) := ho4x
              refine hK.out _ _ hb4 (fun hH4 => ?_)
              clear hK K
              try simp only [Act.put, List.setIfInBounds_toArray, List.set_cons_zero, List.set_cons_succ]
              have hoD := one_kept hoB2 hg4 (by simp [Value.ownBlock]; omega)
              refine wpAnyH_ready (rs := [7]) (by kernel_rfl) (by simp) ?_
              refine AllReadyH.cons rfl (fun K hK => ?_) AllReadyH.nil
              refine step_appI2 (some 57) rfl rfl (.tmp 54) (.tmp 56) rfl wr.heap.size v4 (.slice (some ⟨wd.heap.size, 0, none⟩) 1 1) ([] : List Int) [x] rfl rfl ho4 (one_ints hoD hx1 hx2) (by simp <;> omega) hb4.size ?_
              intro v7 w7 ho7x hg7
              have hb7 : Below wr.heap.size wr w7 := hb4.grown hg7 hb4.size (fun g hg => (ho4.lt g hg).1)
              have ho7 : Own w7 wr.heap.size v7 (([] : List Int) ++ [x]) := ho7x
              refine hK.out _ _ hb7 (fun hH7 => ?_)
              clear hK K
              try simp only [Act.put, List.setIfInBounds_toArray, List.set_cons_zero, List.set_cons_succ]
              refine wpAnyH_ready (rs := [11]) (by kernel_rfl) (by simp) ?_
              refine AllReadyH.cons rfl (fun K hK => ?_) AllReadyH.nil
              refine step_appI2 (some 61) rfl rfl (.tmp 57) (.tmp 60) rfl wr.heap.size v7 (.slice none 0 0) (([] : List Int) ++ [x]) ([] : List Int) rfl rfl ho7 (HSR.out _ hb7) (by simp <;> omega) hb7.size ?_
              intro v11 w11 ho11x hg11
              have hb11 : Below wr.heap.size wr w11 := hb7.grown hg11 hb7.size (fun g hg => (ho7.lt g hg).1)
              have ho11 : Own w11 wr.heap.size v11 (([] : List Int) ++ [x] ++ ([] : List Int)) := ho11x
              refine hK.out _ _ hb11 (fun hH11 => ?_)
              clear hK K
              try simp only [Act.put, List.setIfInBounds_toArray, List.set_cons_zero, List.set_cons_succ]
              refine takeC (i := 12) (v := v11) (some 5) rfl rfl (by kernel_rfl) (by kernel_rfl) (by kernel_rfl) (fun _ _ _ h => h) (Or.inl ⟨by rfl, ?_⟩) (by assumption) ?_
              · intro wz hSw; go_simp
              try simp only [Act.put, List.setIfInBounds_toArray, List.set_cons_zero, List.set_cons_succ]
              refine wpAnyH_done (by kernel_rfl) ?_ _
              go_wp2
              go_roundw
              case rel => exact ⟨k + 1, HKL.out, by go_num, (ho11.mono HB.out.size).to HLS0.out, HB.out.trans (hb11.mono HB.out.size)⟩
              case measure => have := HKL.out; simp [intOf]; omega
          · injection e with e1 e2 e3
            subst e1
            subst e3
            have HLS1 : Hid ((T.take (k + 1)).foldl insO [] = L ++ [x] ++ []) := by
              show _ = _
              rw [HLS.out, hje, List.take_length, List.drop_length]
            have HSL : Hid (∀ X, Below wr.heap.size wr X → IsInts X (.slice (some ⟨g, 0, none⟩) L.length oc) L) := fun X hX => HLI.out.below hX (Nat.le_refl _)
            have HSR : Hid (∀ X, Below wr.heap.size wr X → IsInts X (.slice (if oc = L.length then some ⟨g, 0, none⟩ else some ⟨g, L.length, none⟩) 0 (oc - L.length)) ([] : List Int)) := fun X hX => by
              have h := (HLI.out.below hX (Nat.le_refl _)).from (Nat.le_refl _) (A := if oc = L.length then some ⟨g, 0, none⟩ else some ⟨g, L.length, none⟩) (by rw [Nat.zero_add])
              rw [List.drop_length, Nat.sub_self] at h
              exact h
            have hcap : L.length ≤ oc ∧ oc ≤ 9223372036854775807 := by obtain ⟨_, _, e, ⟨h1, _⟩, h2, _⟩ := HLI.out; injection e with _ _ e; subst e; exact ⟨h1, h2⟩
            have HZ := Lib.hid (show (L.length : Int) ≤ (oc : Int) by omega)
            subst hje
            clear hjl HIN HINS HJ hcap hj hl8 e2 HLS hjb
            go_wp2_with fail
            have z3 := HZ.out
            have hl8 := HLL.out
            refine wp_region_held_drew (S := fun wx => Below wr.heap.size wr wx) (by kernel_rfl) (Below.refl _ _).drew (fun hHeld => ?_)
            have hb0 : Below wr.heap.size wr wr.drew := (Below.refl _ _).drew
            generalize wr.drew = wd at *
            refine takeC (i := 1) (v := .slice (some ⟨g, 0, none⟩) L.length oc) (some 51) rfl rfl (by kernel_rfl) (by kernel_rfl) (by kernel_rfl) (fun _ _ _ h => h) (Or.inl ⟨by rfl, ?_⟩) (by assumption) ?_
            · intro wz hSw; go_simp
            try simp only [Act.put, List.setIfInBounds_toArray, List.set_cons_zero, List.set_cons_succ]
            refine takeC (i := 2) (v := .int .i64 (L.length : Int)) (some 52) rfl rfl (by kernel_rfl) (by kernel_rfl) (by kernel_rfl) (fun _ _ _ h => h) (Or.inl ⟨by rfl, ?_⟩) (by assumption) ?_
            · intro wz hSw; go_simp
            try simp only [Act.put, List.setIfInBounds_toArray, List.set_cons_zero, List.set_cons_succ]
            refine takeC (i := 3) (v := .slice (some ⟨g, 0, none⟩) L.length oc) (some 53) rfl rfl (by kernel_rfl) (by kernel_rfl) (by kernel_rfl) (fun _ _ _ h => h) (Or.inl ⟨by rfl, ?_⟩) (by assumption) ?_
            · intro wz hSw; go_simp
            try simp only [Act.put, List.setIfInBounds_toArray, List.set_cons_zero, List.set_cons_succ]
            refine takeC (i := 5) (v := .int .i64 x) (some 55) rfl rfl (by kernel_rfl) (by kernel_rfl) (by kernel_rfl) (fun _ _ _ h => h) (Or.inl ⟨by rfl, ?_⟩) (by assumption) ?_
            · intro wz hSw; go_simp
            try simp only [Act.put, List.setIfInBounds_toArray, List.set_cons_zero, List.set_cons_succ]
            refine takeC (i := 8) (v := .slice (some ⟨g, 0, none⟩) L.length oc) (some 58) rfl rfl (by kernel_rfl) (by kernel_rfl) (by kernel_rfl) (fun _ _ _ h => h) (Or.inl ⟨by rfl, ?_⟩) (by assumption) ?_
            · intro wz hSw; go_simp
            try simp only [Act.put, List.setIfInBounds_toArray, List.set_cons_zero, List.set_cons_succ]
            refine takeC (i := 9) (v := .int .i64 (L.length : Int)) (some 59) rfl rfl (by kernel_rfl) (by kernel_rfl) (by kernel_rfl) (fun _ _ _ h => h) (Or.inl ⟨by rfl, ?_⟩) (by assumption) ?_
            · intro wz hSw; go_simp
            try simp only [Act.put, List.setIfInBounds_toArray, List.set_cons_zero, List.set_cons_succ]
            refine takeC (i := 10) (v := .slice (if oc = L.length then some ⟨g, 0, none⟩ else some ⟨g, L.length, none⟩) 0 (oc - L.length)) (some 60) rfl rfl (by kernel_rfl) (by kernel_rfl) (by kernel_rfl) (fun _ _ _ h => h) (Or.inl ⟨by rfl, ?_⟩) (by assumption) ?_
            · intro wz hSw; go_simp
            try simp only [Act.put, List.setIfInBounds_toArray, List.set_cons_zero, List.set_cons_succ]
            refine wpAnyH_ready (rs := [0, 6]) (by kernel_rfl) (by simp) ?_
            refine AllReadyH.cons rfl (fun K hK => ?_) (AllReadyH.cons rfl (fun K hK => ?_) AllReadyH.nil)
            · go_simp
              refine hK.out _ _ (hb0.alloc hb0.size _) (fun hHA => ?_)
              clear hK K
              try simp only [Act.put, List.setIfInBounds_toArray, List.set_cons_zero, List.set_cons_succ]
              have hbA : Below wr.heap.size wr (wd.alloc (.cells #[] 3)) := hb0.alloc hb0.size _
              have hzA : wd.heap.size < (wd.alloc (.cells #[] 3)).heap.size := by simp
              have hwA : Own (wd.alloc (.cells #[] 3)) wr.heap.size (.slice (some ⟨wd.heap.size, 0, none⟩) 0 0) [] := Own.built3 hb0.size
              generalize wd.alloc (.cells #[] 3) = xA at *
              refine wpAnyH_ready (rs := [4, 6]) (by kernel_rfl) (by simp) ?_
              refine AllReadyH.cons rfl (fun K hK => ?_) (AllReadyH.cons rfl (fun K hK => ?_) AllReadyH.nil)
              · refine step_appI2 (some 54) rfl rfl (.tmp 50) (.tmp 53) rfl wr.heap.size (.slice (some ⟨wd.heap.size, 0, none⟩) 0 0) (.slice (some ⟨g, 0, none⟩) L.length oc) [] L rfl rfl hwA (HSL.out _ hbA) (by simp <;> omega) hbA.size ?_
                intro v4 w4 ho4x hg4
                have hb4 : Below wr.heap.size wr w4 := hbA.grown hg4 hbA.size (fun g hg => (hwA.lt g hg).1)
                have ho4 : Own w4 wr.heap.size v4 L := ho4x
                refine hK.out _ _ hb4 (fun hH4 => ?_)
                clear hK K
                try simp only [Act.put, List.setIfInBounds_toArray, List.set_cons_zero, List.set_cons_succ]
                refine wpAnyH_ready (rs := [6]) (by kernel_rfl) (by simp) ?_
                refine AllReadyH.cons rfl (fun K hK => ?_) AllReadyH.nil
                go_simp
                refine hK.out _ _ (hb4.alloc hb4.size _) (fun hHC => ?_)
                clear hK K
                try simp only [Act.put, List.setIfInBounds_toArray, List.set_cons_zero, List.set_cons_succ]
                have hbC : Below wr.heap.size wr (w4.alloc (.cells #[.int .i64 x] 3)) := hb4.alloc hb4.size _
                have hzC : w4.heap.size < (w4.alloc (.cells #[.int .i64 x] 3)).heap.size := by simp
                have hoC : (w4.alloc (.cells #[.int .i64 x] 3)).heap[w4.heap.size]? = some (.cells #[.int .i64 x] 3 (0, 0)) := heap_hit rfl
                have ho42 := ho4.alloc (.cells #[.int .i64 x] 3)
                generalize w4.alloc (.cells #[.int .i64 x] 3) = xC at *
                refine wpAnyH_ready (rs := [7]) (by kernel_rfl) (by simp) ?_
                refine AllReadyH.cons rfl (fun K hK => ?_) AllReadyH.nil
                refine step_appI2 (some 57) rfl rfl (.tmp 54) (.tmp 56) rfl wr.heap.size v4 (.slice (some ⟨w4.heap.size, 0, none⟩) 1 1) L [x] rfl rfl ho42 (one_ints hoC hx1 hx2) (by simp <;> omega) hbC.size ?_
                intro v7 w7 ho7x hg7
                have hb7 : Below wr.heap.size wr w7 := hbC.grown hg7 hbC.size (fun g hg => (ho42.lt g hg).1)
                have ho7 : Own w7 wr.heap.size v7 (L ++ [x]) := ho7x
                refine hK.out _ _ hb7 (fun hH7 => ?_)
                clear hK K
                try simp only [Act.put, List.setIfInBounds_toArray, List.set_cons_zero, List.set_cons_succ]
                refine wpAnyH_ready (rs := [11]) (by kernel_rfl) (by simp) ?_
                refine AllReadyH.cons rfl (fun K hK => ?_) AllReadyH.nil
                refine step_appI2 (some 61) rfl rfl (.tmp 57) (.tmp 60) rfl wr.heap.size v7 (.slice (if oc = L.length then some ⟨g, 0, none⟩ else some ⟨g, L.length, none⟩) 0 (oc - L.length)) (L ++ [x]) ([] : List Int) rfl rfl ho7 (HSR.out _ hb7) (by simp <;> omega) hb7.size ?_
                intro v11 w11 ho11x hg11
                have hb11 : Below wr.heap.size wr w11 := hb7.grown hg11 hb7.size (fun g hg => (ho7.lt g hg).1)
                have ho11 : Own w11 wr.heap.size v11 (L ++ [x] ++ ([] : List Int)) := ho11x
                refine hK.out _ _ hb11 (fun hH11 => ?_)
                clear hK K
                try simp only [Act.put, List.setIfInBounds_toArray, List.set_cons_zero, List.set_cons_succ]
                refine takeC (i := 12) (v := v11) (some 5) rfl rfl (by kernel_rfl) (by kernel_rfl) (by kernel_rfl) (fun _ _ _ h => h) (Or.inl ⟨by rfl, ?_⟩) (by assumption) ?_
                · intro wz hSw; go_simp
                try simp only [Act.put, List.setIfInBounds_toArray, List.set_cons_zero, List.set_cons_succ]
                refine wpAnyH_done (by kernel_rfl) ?_ _
                go_wp2
                go_roundw
                case rel => exact ⟨k + 1, HKL.out, by go_num, (ho11.mono HB.out.size).to HLS1.out, HB.out.trans (hb11.mono HB.out.size)⟩
                case measure => have := HKL.out; simp [intOf]; omega
              · go_simp
                refine hK.out _ _ (hbA.alloc hbA.size _) (fun hHC => ?_)
                clear hK K
                try simp only [Act.put, List.setIfInBounds_toArray, List.set_cons_zero, List.set_cons_succ]
                have hbC : Below wr.heap.size wr (xA.alloc (.cells #[.int .i64 x] 3)) := hbA.alloc hbA.size _
                have hzC : xA.heap.size < (xA.alloc (.cells #[.int .i64 x] 3)).heap.size := by simp
                have hoC : (xA.alloc (.cells #[.int .i64 x] 3)).heap[xA.heap.size]? = some (.cells #[.int .i64 x] 3 (0, 0)) := heap_hit rfl
                have hwA2 := hwA.alloc (.cells #[.int .i64 x] 3)
                generalize xA.alloc (.cells #[.int .i64 x] 3) = xC at *
                refine wpAnyH_ready (rs := [4]) (by kernel_rfl) (by simp) ?_
                refine AllReadyH.cons rfl (fun K hK => ?_) AllReadyH.nil
                refine step_appI2 (some 54) rfl rfl (.tmp 50) (.tmp 53) rfl wr.heap.size (.slice (some ⟨wd.heap.size, 0, none⟩) 0 0) (.slice (some ⟨g, 0, none⟩) L.length oc) [] L rfl rfl hwA2 (HSL.out _ hbC) (by simp <;> omega) hbC.size ?_
                intro v4 w4 ho4x hg4
                have hb4 : Below wr.heap.size wr w4 := hbC.grown hg4 hbC.size (fun g hg => (hwA2.lt g hg).1)
                have ho4 : Own w4 wr.heap.size v4 L := ho4x
                refine hK.out _ _ hb4 (fun hH4 => ?_)
                clear hK K
                try simp only [Act.put, List.setIfInBounds_toArray, List.set_cons_zero, List.set_cons_succ]
                have hoD := one_kept hoC hg4 (by simp [Value.ownBlock]; omega)
                refine wpAnyH_ready (rs := [7]) (by kernel_rfl) (by simp) ?_
                refine AllReadyH.cons rfl (fun K hK => ?_) AllReadyH.nil
                refine step_appI2 (some 57) rfl rfl (.tmp 54) (.tmp 56) rfl wr.heap.size v4 (.slice (some ⟨xA.heap.size, 0, none⟩) 1 1) L [x] rfl rfl ho4 (one_ints hoD hx1 hx2) (by simp <;> omega) hb4.size ?_
                intro v7 w7 ho7x hg7
                have hb7 : Below wr.heap.size wr w7 := hb4.grown hg7 hb4.size (fun g hg => (ho4.lt g hg).1)
                have ho7 : Own w7 wr.heap.size v7 (L ++ [x]) := ho7x
                refine hK.out _ _ hb7 (fun hH7 => ?_)
                clear hK K
                try simp only [Act.put, List.setIfInBounds_toArray, List.set_cons_zero, List.set_cons_succ]
                refine wpAnyH_ready (rs := [11]) (by kernel_rfl) (by simp) ?_
                refine AllReadyH.cons rfl (fun K hK => ?_) AllReadyH.nil
                refine step_appI2 (some 61) rfl rfl (.tmp 57) (.tmp 60) rfl wr.heap.size v7 (.slice (if oc = L.length then some ⟨g, 0, none⟩ else some ⟨g, L.length, none⟩) 0 (oc - L.length)) (L ++ [x]) ([] : List Int) rfl rfl ho7 (HSR.out _ hb7) (by simp <;> omega) hb7.size ?_
                intro v11 w11 ho11x hg11
                have hb11 : Below wr.heap.size wr w11 := hb7.grown hg11 hb7.size (fun g hg => (ho7.lt g hg).1)
                have ho11 : Own w11 wr.heap.size v11 (L ++ [x] ++ ([] : List Int)) := ho11x
                refine hK.out _ _ hb11 (fun hH11 => ?_)
                clear hK K
                try simp only [Act.put, List.setIfInBounds_toArray, List.set_cons_zero, List.set_cons_succ]
                refine takeC (i := 12) (v := v11) (some 5) rfl rfl (by kernel_rfl) (by kernel_rfl) (by kernel_rfl) (fun _ _ _ h => h) (Or.inl ⟨by rfl, ?_⟩) (by assumption) ?_
                · intro wz hSw; go_simp
                try simp only [Act.put, List.setIfInBounds_toArray, List.set_cons_zero, List.set_cons_succ]
                refine wpAnyH_done (by kernel_rfl) ?_ _
                go_wp2
                go_roundw
                case rel => exact ⟨k + 1, HKL.out, by go_num, (ho11.mono HB.out.size).to HLS1.out, HB.out.trans (hb11.mono HB.out.size)⟩
                case measure => have := HKL.out; simp [intOf]; omega
            · go_simp
              refine hK.out _ _ (hb0.alloc hb0.size _) (fun hHB => ?_)
              clear hK K
              try simp only [Act.put, List.setIfInBounds_toArray, List.set_cons_zero, List.set_cons_succ]
              have hbB : Below wr.heap.size wr (wd.alloc (.cells #[.int .i64 x] 3)) := hb0.alloc hb0.size _
              have hzB : wd.heap.size < (wd.alloc (.cells #[.int .i64 x] 3)).heap.size := by simp
              have hoB : (wd.alloc (.cells #[.int .i64 x] 3)).heap[wd.heap.size]? = some (.cells #[.int .i64 x] 3 (0, 0)) := heap_hit rfl
              generalize wd.alloc (.cells #[.int .i64 x] 3) = xB at *
              refine wpAnyH_ready (rs := [0]) (by kernel_rfl) (by simp) ?_
              refine AllReadyH.cons rfl (fun K hK => ?_) AllReadyH.nil
              go_simp
              refine hK.out _ _ (hbB.alloc hbB.size _) (fun hHA => ?_)
              clear hK K
              try simp only [Act.put, List.setIfInBounds_toArray, List.set_cons_zero, List.set_cons_succ]
              have hbA : Below wr.heap.size wr (xB.alloc (.cells #[] 3)) := hbB.alloc hbB.size _
              have hzA : xB.heap.size < (xB.alloc (.cells #[] 3)).heap.size := by simp
              have hwA : Own (xB.alloc (.cells #[] 3)) wr.heap.size (.slice (some ⟨xB.heap.size, 0, none⟩) 0 0) [] := Own.built3 hbB.size
              have hoB2 := one_alloc hoB (.cells #[] 3)
              generalize xB.alloc (.cells #[] 3) = xA at *
              refine wpAnyH_ready (rs := [4]) (by kernel_rfl) (by simp) ?_
              refine AllReadyH.cons rfl (fun K hK => ?_) AllReadyH.nil
              refine step_appI2 (some 54) rfl rfl (.tmp 50) (.tmp 53) rfl wr.heap.size (.slice (some ⟨xB.heap.size, 0, none⟩) 0 0) (.slice (some ⟨g, 0, none⟩) L.length oc) [] L rfl rfl hwA (HSL.out _ hbA) (by simp <;> omega) hbA.size ?_
              intro v4 w4 ho4x hg4
              have hb4 : Below wr.heap.size wr w4 := hbA.grown hg4 hbA.size (fun g hg => (hwA.lt g hg).1)
              have ho4 : Own w4 wr.heap.size v4 L := ho4x
              refine hK.out _ _ hb4 (fun hH4 => ?_)
              clear hK K
              try simp only [Act.put, List.setIfInBounds_toArray, List.set_cons_zero, List.set_cons_succ]
              have hoD := one_kept hoB2 hg4 (by simp [Value.ownBlock]; omega)
              refine wpAnyH_ready (rs := [7]) (by kernel_rfl) (by simp) ?_
              refine AllReadyH.cons rfl (fun K hK => ?_) AllReadyH.nil
              refine step_appI2 (some 57) rfl rfl (.tmp 54) (.tmp 56) rfl wr.heap.size v4 (.slice (some ⟨wd.heap.size, 0, none⟩) 1 1) L [x] rfl rfl ho4 (one_ints hoD hx1 hx2) (by simp <;> omega) hb4.size ?_
              intro v7 w7 ho7x hg7
              have hb7 : Below wr.heap.size wr w7 := hb4.grown hg7 hb4.size (fun g hg => (ho4.lt g hg).1)
              have ho7 : Own w7 wr.heap.size v7 (L ++ [x]) := ho7x
              refine hK.out _ _ hb7 (fun hH7 => ?_)
              clear hK K
              try simp only [Act.put, List.setIfInBounds_toArray, List.set_cons_zero, List.set_cons_succ]
              refine wpAnyH_ready (rs := [11]) (by kernel_rfl) (by simp) ?_
              refine AllReadyH.cons rfl (fun K hK => ?_) AllReadyH.nil
              refine step_appI2 (some 61) rfl rfl (.tmp 57) (.tmp 60) rfl wr.heap.size v7 (.slice (if oc = L.length then some ⟨g, 0, none⟩ else some ⟨g, L.length, none⟩) 0 (oc - L.length)) (L ++ [x]) ([] : List Int) rfl rfl ho7 (HSR.out _ hb7) (by simp <;> omega) hb7.size ?_
              intro v11 w11 ho11x hg11
              have hb11 : Below wr.heap.size wr w11 := hb7.grown hg11 hb7.size (fun g hg => (ho7.lt g hg).1)
              have ho11 : Own w11 wr.heap.size v11 (L ++ [x] ++ ([] : List Int)) := ho11x
              refine hK.out _ _ hb11 (fun hH11 => ?_)
              clear hK K
              try simp only [Act.put, List.setIfInBounds_toArray, List.set_cons_zero, List.set_cons_succ]
              refine takeC (i := 12) (v := v11) (some 5) rfl rfl (by kernel_rfl) (by kernel_rfl) (by kernel_rfl) (fun _ _ _ h => h) (Or.inl ⟨by rfl, ?_⟩) (by assumption) ?_
              · intro wz hSw; go_simp
              try simp only [Act.put, List.setIfInBounds_toArray, List.set_cons_zero, List.set_cons_succ]
              refine wpAnyH_done (by kernel_rfl) ?_ _
              go_wp2
              go_roundw
              case rel => exact ⟨k + 1, HKL.out, by go_num, (ho11.mono HB.out.size).to HLS1.out, HB.out.trans (hb11.mono HB.out.size)⟩
              case measure => have := HKL.out; simp [intOf]; omega
    · have hTK : T.take k = T := List.take_of_length_le (by omega)
      rw [hTK] at hown
      obtain ⟨fa, fc, rfl⟩ := own_shC hown
      have HOF : Hid (Own wr w2.heap.size (.slice fa (T.foldl insO []).length fc) (overL a b)) := hown.to HOV.out
      clear hown
      go_wp2
      go_ret
      exact ⟨_, rfl, HOF.out.mono HB2.out.size, HB2.out.trans (HB.out.mono HB2.out.size)⟩

def insideL (a V : List Int) : List Int := overL [] (a.filter (fun x => decide (varC x ∈ V)))
theorem within_test {V : List Int} (hV : ∀ y ∈ V, 1 ≤ y ∧ y ≤ 65536) {x : Int} (h1 : -9223372036854775808 ≤ x) (h2 : x ≤ 9223372036854775807) : (memB V x || memB V (wrap64 (-x))) = decide (varC x ∈ V) := by
  unfold memB
  rw [Bool.eq_iff_iff]
  simp only [Bool.or_eq_true, decide_eq_true_eq]
  have hneg : ∀ y : Int, y < 1 → y ∉ V := fun y hy h => by have := hV y h; omega
  unfold varC
  by_cases h0 : x < 0
  · rw [if_pos h0]
    by_cases hm : x = -9223372036854775808
    · rw [if_pos hm]
      have hw : wrap64 (-x) = x := by rw [hm]; unfold wrap64; rfl
      rw [hw]
      constructor
      · rintro (h | h) <;> exact h
      · exact .inl
    · rw [if_neg hm]
      have hw : wrap64 (-x) = -x := by unfold wrap64; omega
      rw [hw]
      constructor
      · rintro (h | h)
        · exact absurd h (hneg _ (by omega))
        · exact h
      · exact .inr
  · rw [if_neg h0]
    have hw : wrap64 (-x) = -x := by unfold wrap64; omega
    rw [hw]
    constructor
    · rintro (h | h)
      · exact h
      · exact absurd h (hneg _ (by omega))
    · exact .inl
theorem within_len (a V : List Int) : (insideL a V).length ≤ a.length := by
  have h1 := overL_len [] (a.filter (fun x => decide (varC x ∈ V)))
  have h2 := List.length_filter_le (fun x => decide (varC x ∈ V)) a
  unfold insideL
  simp at h1
  omega
theorem within_in {a V : List Int} (hV : ∀ y ∈ V, 1 ≤ y ∧ y ≤ 65536) : varIn (a.filter (fun x => decide (varC x ∈ V))) := fun x hx => by
  have := (List.mem_filter.1 hx).2
  exact hV _ (by simpa using this)
set_option maxHeartbeats 3200000 in
set_option maxRecDepth 100000 in
theorem within5_any (va vv : Value) (a V : List Int) (w : World) (HA : IsInts w va a) (HV : IsInts w vv V) (hV : ∀ y ∈ V, 1 ≤ y ∧ y ≤ 65536) (hal : a.length ≤ 4000000) :
    Calls Try.prog 34 #[va, vv] w (RetOwn w (insideL a V)) := by
  have HAI := Lib.hid HA
  have HVI := Lib.hid HV
  have h64 : In64 a := by obtain ⟨_, _, _, _, _, _, g, _⟩ := HA; exact g
  have H64 := Lib.hid h64
  have HVB := Lib.hid hV
  have HAL := Lib.hid hal
  obtain ⟨aa, ac, rfl⟩ := HA.shape
  obtain ⟨vva, vc, rfl⟩ := HV.shape
  clear HA HV h64 hV hal
  go_enter Try.func34, Try.ntmps34
  go_wp2
  go_loopw [5, 10] (fun out i wr => ∃ k : Nat, k ≤ a.length ∧ i = .int .i64 k ∧ Own wr w.heap.size out ((a.take k).filter (fun x => decide (varC x ∈ V))) ∧ Below w.heap.size w wr) (fun _ i _ => a.length - (intOf i).toNat)
  case atStart => exact ⟨0, Nat.zero_le _, rfl, Own.nil _ _, Below.refl _ _⟩
  case round =>
    obtain ⟨k, hk, rfl, hown, hbel⟩ := hrel
    have HO := Lib.hid hown
    have HB := Lib.hid hbel
    have hszr := hbel.size
    have HFL : Hid (((a.take k).filter (fun x => decide (varC x ∈ V))).length ≤ 4000000) := by
      show _ ≤ _
      have h1 := List.length_filter_le (fun x => decide (varC x ∈ V)) (a.take k)
      rw [List.length_take] at h1
      have := HAL.out
      omega
    by_cases hlt : k < a.length
    · obtain ⟨b0, off, rfl, hb0c, hc0⟩ := HAI.out.cellY hlt
      have hc := (hbel.cell (p := ⟨b0, off + k, none⟩) hb0c).trans hc0
      have HTK : Hid ((a.take (k + 1)).filter (fun x => decide (varC x ∈ V)) = (a.take k).filter (fun x => decide (varC x ∈ V)) ++ if decide (varC (a.getD k 0) ∈ V) = true then [a.getD k 0] else []) := by
        show _ = _
        rw [List.take_succ_eq_append_getElem hlt, List.filter_append]
        congr 1
        simp [List.getD, hlt, List.filter_cons]
      have hxr := H64.out (a.getD k 0) (by simp [List.getD, hlt])
      have HT := Lib.hid (within_test HVB.out hxr.1 hxr.2)
      have hnr : -9223372036854775808 ≤ wrap64 (-(a.getD k 0)) ∧ wrap64 (-(a.getD k 0)) ≤ 9223372036854775807 := by unfold wrap64; omega
      have HI1 := Lib.hid (in5_any _ V (a.getD k 0) wr (HVI.out.below hbel (Nat.le_refl _)) hxr.1 hxr.2)
      have HI2 := Lib.hid (in5_any _ V _ wr (HVI.out.below hbel (Nat.le_refl _)) hnr.1 hnr.2)
      have hk0 : (0 : Int) ≤ (k : Int) := by omega
      have hk1 : (k : Int) < (a.length : Int) := by omega
      have hk2 : (k : Int) < 4000001 := by have := HAL.out; omega
      have HKL := Lib.hid hlt
      obtain ⟨oa, oc, rfl⟩ := own_shC hown
      clear hc0 hown hbel hlt hxr hnr
      generalize hnx : wrap64 (-(a.getD k 0)) = nx at *
      generalize decide (varC (a.getD k 0) ∈ V) = t at *
      generalize (a.take k).filter (fun x => decide (varC x ∈ V)) = F at *
      generalize a.getD k 0 = x at *
      generalize memB V x = m1 at *
      generalize memB V nx = m2 at *
      cases m1 with
      | true =>
        have HT1 : Hid (t = true) := HT.out.symm
        have HF2 : Hid ((a.take (k + 1)).filter (fun x => decide (varC x ∈ V)) = F ++ [x]) := by show _ = _; rw [HTK.out, HT1.out]; rfl
        clear HT HTK HI2
        go_wp2_with (first
          | (go_at_call 37; refine HI1.out.mono ?_; rintro e w3 ⟨rfl, rfl⟩)
          | (at_builtin; go_loud (refine wpList_app1 rfl (.tmp 23) (.tmp 25) rfl w.heap.size (.slice oa F.length oc) F x wr.heap.size rfl rfl (HO.out.alloc _) (cell_fresh rfl) (by have := HFL.out; omega) (by simp; omega) ?_; intro v5 w5 ho5 hg5; have HB5 : Hid (Below w.heap.size w w5) := (HB.out.alloc hszr _).grown hg5 (by simp; omega) (fun g hg => (HO.out.lt g hg).1); have HO5 := Lib.hid ho5; clear ho5 hg5)))
        go_roundw
        case rel => exact ⟨k + 1, HKL.out, by go_num, HO5.out.to HF2.out, HB5.out⟩
        case measure => have := HKL.out; simp [intOf]; omega
      | false =>
        cases m2 with
        | true =>
          have HT1 : Hid (t = true) := HT.out.symm
          have HF2 : Hid ((a.take (k + 1)).filter (fun x => decide (varC x ∈ V)) = F ++ [x]) := by show _ = _; rw [HTK.out, HT1.out]; rfl
          clear HT HTK
          go_wp2_with (first
            | (go_at_call_of 37 (Value.int .i64 nx); refine HI2.out.mono ?_; rintro e w3 ⟨rfl, rfl⟩)
            | (go_at_call_of 37 (Value.int .i64 x); refine HI1.out.mono ?_; rintro e w3 ⟨rfl, rfl⟩)
            | (at_builtin; go_loud (refine wpList_app1 rfl (.tmp 23) (.tmp 25) rfl w.heap.size (.slice oa F.length oc) F x wr.heap.size rfl rfl (HO.out.alloc _) (cell_fresh rfl) (by have := HFL.out; omega) (by simp; omega) ?_; intro v5 w5 ho5 hg5; have HB5 : Hid (Below w.heap.size w w5) := (HB.out.alloc hszr _).grown hg5 (by simp; omega) (fun g hg => (HO.out.lt g hg).1); have HO5 := Lib.hid ho5; clear ho5 hg5)))
          go_roundw
          case rel => exact ⟨k + 1, HKL.out, by go_num, HO5.out.to HF2.out, HB5.out⟩
          case measure => have := HKL.out; simp [intOf]; omega
        | false =>
          have HT1 : Hid (t = false) := HT.out.symm
          have HF2 : Hid ((a.take (k + 1)).filter (fun x => decide (varC x ∈ V)) = F) := by show _ = _; rw [HTK.out, HT1.out]; simp
          clear HT HTK
          go_wp2_with (first
            | (go_at_call_of 37 (Value.int .i64 nx); refine HI2.out.mono ?_; rintro e w3 ⟨rfl, rfl⟩)
            | (go_at_call_of 37 (Value.int .i64 x); refine HI1.out.mono ?_; rintro e w3 ⟨rfl, rfl⟩))
          go_roundw
          case rel => exact ⟨k + 1, HKL.out, by go_num, HO.out.to HF2.out, HB.out⟩
          case measure => have := HKL.out; simp [intOf]; omega
    · obtain ⟨oa, oc, rfl⟩ := own_shC hown
      have hF : (a.take k).filter (fun x => decide (varC x ∈ V)) = a.filter (fun x => decide (varC x ∈ V)) := by rw [List.take_of_length_le (by omega)]
      have hvi := within_in (a := a) HVB.out
      have HOI : Hid (IsInts wr (.slice oa ((a.take k).filter (fun x => decide (varC x ∈ V))).length oc) (a.filter (fun x => decide (varC x ∈ V)))) := by
        have h := hown.ints (by have := HFL.out; omega) (by rw [hF]; exact fun x hx => varC_range (hvi x hx))
        exact hF ▸ h
      have HOV := Lib.hid (over5_any (.slice none 0 0) _ [] _ wr (IsInts.nil wr) HOI.out (fun x hx => by cases hx) hvi (by simp) (by have := HFL.out; rw [hF] at this; exact this))
      clear hown hvi hF hbel HO
      generalize ((a.take k).filter (fun x => decide (varC x ∈ V))).length = fl at *
      go_wp2_with (go_at_call 35; refine HOV.out.mono ?_; rintro e w6 ⟨v6, rfl, ho6, hb6⟩)
      go_ret
      exact ⟨_, rfl, ho6.mono hszr, HB.out.trans (hb6.mono hszr)⟩
end Go.Proofs.Yticcikelapifaaa
