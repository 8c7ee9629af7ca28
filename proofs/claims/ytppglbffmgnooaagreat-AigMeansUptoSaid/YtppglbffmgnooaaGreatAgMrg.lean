/- The law's merged. -/
import Derived.Test.YtppglbffmgnooaaGreatB08
import Derived.Test.YtppglbffmgnooaaGreatAgR5N
import Derived.Test.YtppglbffmgnooaaGreatCxRInts
import Derived.Test.YtppglbffmgnooaaGreatCxMk0
import Derived.Test.YtppglbffmgnooaaGreatK02
namespace Go.Proofs.YtppglbffmgnooaaGreat
open Go.RowKit Go.Maps Go.Shelf
set_option linter.unusedVariables false
set_option linter.unusedSimpArgs false

theorem heap_hit0 {w : World} {o : Obj} {k : Nat} (h : k = w.heap.size) : (w.alloc o).heap[k]? = some o := by subst h; exact World.alloc_heap_new _ _
theorem own_built0 {w : World} {B : Nat} (hB : B ≤ w.heap.size) : Own (w.alloc (.cells #[] 3)) B (.slice (some ⟨w.heap.size, 0, none⟩) 0 0) [] :=
  ⟨rfl, .inr ⟨w.heap.size, 0, #[], rfl, hB, World.alloc_heap_new _ _, Nat.le_refl _, by unfold maxLen; omega, rfl, rfl⟩⟩
theorem insM_say (L : List Int) (x : Int) (j : Nat) (hj : j ≤ L.length) (hl : ∀ q, q < j → varC (L.getD q 0) < varC x) (hn : j < L.length → ¬ varC (L.getD j 0) < varC x) : insM x L = if j < L.length ∧ varC (L.getD j 0) = varC x then L else L.take j ++ [x] ++ L.drop j := by
  by_cases c : j < L.length ∧ varC (L.getD j 0) = varC x
  · rw [if_pos c, insM_is c.1 hl c.2]
  · rw [if_neg c]
    exact insM_at hj hl (fun h => by
      have h1 := hn h
      have h2 : varC (L.getD j 0) ≠ varC x := fun e => c ⟨h, e⟩
      omega)
theorem own_to {w : World} {B : Nat} {v : Value} {xs ys : List Int} (h : Own w B v xs) (e : ys = xs) : Own w B v ys := e ▸ h
set_option maxRecDepth 100000 in
/-- 'append(s, x...)' over integers, nil or not, in a region that draws its order. -/
theorem step_appI2 {ops : Array Oper} {o : Oper} {a : Act} {w : World} {K : Act → World → Prop} {Q : Exit → Act → World → Prop} {E : Prop} (d : Option Tmp) (hd : o.dst = d) (hgd : o.guard = none) (s x : Operand)
    (ho : o.op = .call { callee := .builtin .append, args := #[s, x], argTypes := #[22, 22] }) (B : Nat) (v u : Value) (xs ys : List Int)
    (hs : a.eval s = v) (hx : a.eval x = u) (hown : Own w B v xs) (hu : IsInts w u ys) (hlen : xs.length + ys.length ≤ 17592186044416) (hB : B ≤ w.heap.size)
    (h : ∀ v' w', Own w' B v' (xs ++ ys) → w.grownBy w' v.ownBlock → K (a.put d v') w') :
    if Region.wanted o (yielded ops a.tmps) = true then Oper.wp Tryz.prog o a w K Q else E := by
  subst hd
  have hw : Region.wanted o (yielded ops a.tmps) = true := by simp [Region.wanted, hgd]
  rw [if_pos hw]
  obtain ⟨i0, hi, hz0, hz1, hz2⟩ := info_parts info_int
  obtain ⟨ad, cap, rfl, hcap, _, _, h64, b, off, ha, hc⟩ := hu
  cases ad with
  | none =>
    have hy : ys = [] := by
      by_cases e : ys = []
      · exact e
      · have := (ha e).1; cases this
    subst hy
    have hcap0 := hcap.2 rfl
    subst hcap0
    have hrun := run_append_owned_none (P := Tryz.prog) (w := w) B 22 o.type 3 i0 1 Tryz.underlying22 hi v xs.length _ hown
    unfold Oper.wp
    simp [execOp, ho, resolve, invoke, builtin, hs, hx, hrun, Result.andThen]
    exact h v w (by rw [List.append_nil]; exact hown) (World.grownBy.refl _ _)
  | some ad =>
    obtain ⟨v', w', hr, h2, h3, h4, h5⟩ := run_append_own_at (P := Tryz.prog) w B 22 o.type 3 i0 (.int .i64 0) 1 8 Tryz.underlying22 hi hz0 hz1 hz2 rfl (by decide) v xs.length _ hown ad ys.length cap (ys.map (Value.int .i64)) (by simp) (fun j u hj => by
      have hlt : j < ys.length := by have := (List.getElem?_eq_some_iff.1 hj).1; simpa using this
      have hne : ys ≠ [] := by intro e; simp [e] at hlt
      have e := Option.some.inj (ha hne).1
      subst e
      rw [Addr.add_lit, hc j hlt, ← hj]
      simp [List.getD, hlt]) (ints_oneCell _ _) (by unfold maxLen; omega) (by omega) hB
    unfold Oper.wp execOp
    simp only [ho, resolve, invoke, builtin, Sem.run_bind, Sem.run_pure, Result.andThen_ok, List.map_toArray, List.map_cons, List.map_nil, hs, hx, hr]
    refine h v' w' ?_ h3
    unfold Own
    rw [List.length_append, List.map_append]
    exact h2
theorem one_kept {X Y : World} {q : Nat} {row : Option Nat} {o : Obj} (h : X.heap[q]? = some o) (hg : X.grownBy Y row) (hne : row ≠ some q) : Y.heap[q]? = some o := (hg.block q (Array.getElem?_eq_some_iff.1 h).1 (fun e => hne e.symm)).trans h
theorem one_alloc {X : World} {q : Nat} {o : Obj} (h : X.heap[q]? = some o) (o' : Obj) : (X.alloc o').heap[q]? = some o := (Below.heap_alloc _ _ _ (Array.getElem?_eq_some_iff.1 h).1).trans h
theorem one_ints {X : World} {q : Nat} {x : Int} (h : X.heap[q]? = some (.cells #[.int .i64 x] 3 (0, 0))) (h1 : -9223372036854775808 ≤ x) (h2 : x ≤ 9223372036854775807) : IsInts X (.slice (some ⟨q, 0, none⟩) 1 1) [x] :=
  ⟨_, 1, rfl, ⟨Nat.le_refl _, fun e => by cases e⟩, by omega, by simp, fun y hy => by rw [List.mem_singleton] at hy; subst hy; exact ⟨h1, h2⟩, q, 0, fun _ => ⟨rfl, (Array.getElem?_eq_some_iff.1 h).1⟩, fun j hj => by
    obtain rfl : j = 0 := by simpa using hj
    simp [World.cell?, h]⟩
theorem abs5_litM {x : Int} (h : litB x = true) : abs5 x = varC x ∧ -9223372036854775808 ≤ x ∧ x ≤ 9223372036854775807 := by
  have h1 := litB_iff.1 h
  rw [varC_of h]
  unfold abs5
  refine ⟨?_, by omega, by omega⟩
  split
  · rw [if_neg (by omega)]
  · rfl
theorem merged_take {T : List Int} {k : Nat} (h : k < T.length) : mergedL (T.take (k + 1)) = insM (T.getD k 0) (mergedL (T.take k)) := by
  rw [List.take_succ_eq_append_getElem h, merged_snoc]
  simp [List.getD, h]
set_option maxHeartbeats 6400000 in
set_option maxRecDepth 100000 in
theorem merged6_any (v0 : Value) (T : List Int) (w : World) (HT : IsInts w v0 T) (htv : ∀ x ∈ T, litB x = true) (htl : T.length ≤ 4000000) :
    Calls Tryz.prog 50 #[v0] w (RetOwn w (mergedL T)) := by
  have HTI := Lib.hid HT
  obtain ⟨ta, tc, rfl⟩ := HT.shape
  have HTV := Lib.hid htv
  have HTL := Lib.hid htl
  have hAbs : ∀ (x : Int) (X : World), litB x = true → Calls Tryz.prog 121 #[.int .i64 x] X fun e w' => e = .returned (.int .i64 (varC x)) ∧ X = w' := fun x X h => by
    have h9 := abs5_any x X (abs5_litM h).2.1 (abs5_litM h).2.2
    rw [(abs5_litM h).1] at h9
    exact h9
  have HABS := Lib.hid hAbs
  clear HT htv htl hAbs
  go_enter Tryz.func50, Tryz.ntmps50
  go_wp2
  go_loopw [3, 10] (fun out i wr => ∃ k : Nat, k ≤ T.length ∧ i = .int .i64 k ∧ Own wr w.heap.size out (mergedL (T.take k)) ∧ Below w.heap.size w wr) (fun _ i _ => T.length - (intOf i).toNat)
  case atStart => exact ⟨0, Nat.zero_le _, rfl, Own.nil _ _, Below.refl _ _⟩
  case round =>
    obtain ⟨k, hk, rfl, hown, hbel⟩ := hrel
    have HB := Lib.hid hbel
    by_cases hlt : k < T.length
    · obtain ⟨b0, off, rfl, hb0c, hc0⟩ := HTI.out.cellY hlt
      have hc := (HB.out.cell (p := ⟨b0, off + k, none⟩) hb0c).trans hc0
      have HTK : Hid (mergedL (T.take (k + 1)) = insM (T.getD k 0) (mergedL (T.take k))) := merged_take hlt
      have hxv := HTV.out (T.getD k 0) (by simp [List.getD, hlt])
      have hLV : ∀ z ∈ mergedL (T.take k), litB z = true := fun z hz => HTV.out z (List.mem_of_mem_take (merged_sub hz))
      have hLL : (mergedL (T.take k)).length ≤ 8000000 := by
        have h1 := (merged_all _ (T.take k) rfl).2.2
        have h2 := HTL.out
        rw [List.length_take] at h1
        omega
      have HINS := Lib.hid (insM_say (mergedL (T.take k)) (T.getD k 0))
      have hk0 : (0 : Int) ≤ (k : Int) := by omega
      have hk1 : (k : Int) < (T.length : Int) := by omega
      have HKL := Lib.hid hlt
      have hk2 : (k : Int) < 8000001 := by have := HTL.out; omega
      have HLV := Lib.hid hLV
      have HLL := Lib.hid hLL
      have HOWN := Lib.hid hown
      clear hlt hc0 hk hown hbel hLV hLL
      generalize mergedL (T.take k) = L at *
      generalize T.getD k 0 = x at *
      have hx1 := (abs5_litM hxv).2.1
      have hx2 := (abs5_litM hxv).2.2
      have HLI : Hid (IsInts wr _ L) := HOWN.out.ints (by have := HLL.out; omega) (fun z hz => (abs5_litM (HLV.out z hz)).2)
      obtain ⟨oa, oc, rfl⟩ := own_shC HOWN.out
      have HAX := Lib.hid (fun X => HABS.out x X hxv)
      have hl8 := HLL.out
      clear hxv
      go_wp2_with (go_at_call 121; refine (HAX.out _).mono ?_; rintro e w3 ⟨rfl, rfl⟩)
      go_loop [7] (fun i => ∃ j : Nat, j ≤ L.length ∧ i = .int .i64 j ∧ Hid (∀ q, q < j → varC (L.getD q 0) < varC x)) (fun i => L.length - (intOf i).toNat)
      case atStart => exact ⟨0, Nat.zero_le _, rfl, fun q hq => absurd hq (Nat.not_lt_zero _)⟩
      case round =>
        obtain ⟨j, hj, rfl, HJ⟩ := hrel
        by_cases hjl : j < L.length
        · obtain ⟨b1, off1, rfl, hb1c, hc1⟩ := HLI.out.cellY hjl
          have hj0 : (0 : Int) ≤ (j : Int) := by omega
          have hj1 : (j : Int) < (L.length : Int) := by omega
          have hj2 : (j : Int) < 8000001 := by omega
          have HAY := Lib.hid (fun X => HABS.out (L.getD j 0) X (HLV.out _ (by simp [List.getD, hjl])))
          by_cases hv : varC (L.getD j 0) < varC x
          · have HJ2 : Hid (∀ q, q < j + 1 → varC (L.getD q 0) < varC x) := fun q hq => by
              by_cases e : q = j
              · rw [e]; exact hv
              · exact HJ.out q (by omega)
            have HJL := Lib.hid hjl
            clear hjl
            generalize varC (L.getD j 0) = vy at *
            generalize L.getD j 0 = y at *
            go_wp2_with (go_at_call 121; refine (HAY.out _).mono ?_; rintro e w4 ⟨rfl, rfl⟩)
            go_round
            case rel => exact ⟨j + 1, HJL.out, by go_num, HJ2.out⟩
            case measure => have := HJL.out; simp [intOf]; omega
          · have HIN := Lib.hid (HINS.out j hj HJ.out (fun _ => by omega))
            have hvb : decide (varC (L.getD j 0) < varC x) = false := by rw [decide_eq_false_iff_not]; exact hv
            by_cases he : varC (L.getD j 0) = varC x
            · have HLS : Hid (mergedL (T.take (k + 1)) = L) := by show _ = _; rw [HTK.out, HIN.out, if_pos ⟨hjl, he⟩]
              have heb : (varC (L.getD j 0) == varC x) = true := by simpa using he
              clear hv he HIN hjl
              generalize varC (L.getD j 0) = vy at *
              generalize L.getD j 0 = y at *
              go_wp2_with (go_at_call 121; refine (HAY.out _).mono ?_; rintro e w4 ⟨rfl, rfl⟩)
              go_roundw
              case rel => exact ⟨k + 1, HKL.out, by go_num, own_to HOWN.out HLS.out, HB.out⟩
              case measure => have := HKL.out; simp [intOf]; omega
            · have HLS : Hid (mergedL (T.take (k + 1)) = L.take j ++ [x] ++ L.drop j) := by show _ = _; rw [HTK.out, HIN.out, if_neg (fun h => he h.2)]
              have heb : (varC (L.getD j 0) == varC x) = false := by simpa using he
              have HSL : Hid (∀ X, Below wr.heap.size wr X → IsInts X (.slice (some ⟨b1, off1, none⟩) j oc) (L.take j)) := fun X hX => (HLI.out.below hX (Nat.le_refl _)).upto (by omega)
              have HSR : Hid (∀ X, Below wr.heap.size wr X → IsInts X (.slice (if oc = j then some ⟨b1, off1, none⟩ else some ⟨b1, off1 + j, none⟩) (L.length - j) (oc - j)) (L.drop j)) := fun X hX => (HLI.out.below hX (Nat.le_refl _)).from (by omega) rfl
              have hcap : L.length ≤ oc ∧ oc ≤ 9223372036854775807 := by obtain ⟨_, _, e, ⟨h1, _⟩, h2, _⟩ := HLI.out; injection e with _ _ e; subst e; exact ⟨h1, h2⟩
              have z2 : (j : Int) ≤ (L.length : Int) := by omega
              have z3 : (L.length : Int) ≤ (oc : Int) := by omega
              have z4 : (j : Int) ≤ (oc : Int) := by omega
              clear hv he HIN hjl
              generalize varC (L.getD j 0) = vy at *
              generalize L.getD j 0 = y at *
              go_wp2_with (go_at_call 121; refine (HAY.out _).mono ?_; rintro e w4 ⟨rfl, rfl⟩)
              refine wp_region_held_drew (S := fun wx => Below wr.heap.size wr wx) (by kernel_rfl) (Below.refl _ _).drew (fun hHeld => ?_)
              have hb0 : Below wr.heap.size wr wr.drew := (Below.refl _ _).drew
              generalize wr.drew = wd at *
              refine takeC (i := 1) (v := .slice (some ⟨b1, off1, none⟩) L.length oc) (some 45) rfl rfl (by kernel_rfl) (by kernel_rfl) (by kernel_rfl) (fun _ _ _ h => h) (Or.inl ⟨by rfl, ?_⟩) (by assumption) ?_
              · intro wz hSw; go_simp
              try simp only [Act.put, List.setIfInBounds_toArray, List.set_cons_zero, List.set_cons_succ]
              refine takeC (i := 2) (v := .int .i64 (j : Int)) (some 46) rfl rfl (by kernel_rfl) (by kernel_rfl) (by kernel_rfl) (fun _ _ _ h => h) (Or.inl ⟨by rfl, ?_⟩) (by assumption) ?_
              · intro wz hSw; go_simp
              try simp only [Act.put, List.setIfInBounds_toArray, List.set_cons_zero, List.set_cons_succ]
              refine takeC (i := 3) (v := .slice (some ⟨b1, off1, none⟩) j oc) (some 47) rfl rfl (by kernel_rfl) (by kernel_rfl) (by kernel_rfl) (fun _ _ _ h => h) (Or.inl ⟨by rfl, ?_⟩) (by assumption) ?_
              · intro wz hSw; go_simp
              try simp only [Act.put, List.setIfInBounds_toArray, List.set_cons_zero, List.set_cons_succ]
              refine takeC (i := 5) (v := .int .i64 x) (some 49) rfl rfl (by kernel_rfl) (by kernel_rfl) (by kernel_rfl) (fun _ _ _ h => h) (Or.inl ⟨by rfl, ?_⟩) (by assumption) ?_
              · intro wz hSw; go_simp
              try simp only [Act.put, List.setIfInBounds_toArray, List.set_cons_zero, List.set_cons_succ]
              refine takeC (i := 8) (v := .slice (some ⟨b1, off1, none⟩) L.length oc) (some 52) rfl rfl (by kernel_rfl) (by kernel_rfl) (by kernel_rfl) (fun _ _ _ h => h) (Or.inl ⟨by rfl, ?_⟩) (by assumption) ?_
              · intro wz hSw; go_simp
              try simp only [Act.put, List.setIfInBounds_toArray, List.set_cons_zero, List.set_cons_succ]
              refine takeC (i := 9) (v := .int .i64 (j : Int)) (some 53) rfl rfl (by kernel_rfl) (by kernel_rfl) (by kernel_rfl) (fun _ _ _ h => h) (Or.inl ⟨by rfl, ?_⟩) (by assumption) ?_
              · intro wz hSw; go_simp
              try simp only [Act.put, List.setIfInBounds_toArray, List.set_cons_zero, List.set_cons_succ]
              refine takeC (i := 10) (v := .slice (if oc = j then some ⟨b1, off1, none⟩ else some ⟨b1, off1 + j, none⟩) (L.length - j) (oc - j)) (some 54) rfl rfl (by kernel_rfl) (by kernel_rfl) (by kernel_rfl) (fun _ _ _ h => h) (Or.inl ⟨by rfl, ?_⟩) (by assumption) ?_
              · intro wz hSw; go_simp
              try simp only [Act.put, List.setIfInBounds_toArray, List.set_cons_zero, List.set_cons_succ]
              refine wpAnyH_ready (rs := [0, 6]) (by kernel_rfl) (by simp) ?_
              refine AllReadyH.cons rfl (fun K hK => ?_) (AllReadyH.cons rfl (fun K hK => ?_) AllReadyH.nil)
              · go_simp
                refine hK.out _ _ (hb0.alloc hb0.size _) (fun hHA => ?_)
                clear hK K
                try simp only [Act.put, List.setIfInBounds_toArray, List.set_cons_zero, List.set_cons_succ]
                have hbA : Below wr.heap.size wr (wd.alloc (.cells #[] 3)) := hb0.alloc hb0.size _
                have hzA : wd.heap.size < (wd.alloc (.cells #[] 3)).heap.size := by simp
                have hwA : Own (wd.alloc (.cells #[] 3)) wr.heap.size (.slice (some ⟨wd.heap.size, 0, none⟩) 0 0) [] := own_built0 hb0.size
                generalize wd.alloc (.cells #[] 3) = xA at *
                refine wpAnyH_ready (rs := [4, 6]) (by kernel_rfl) (by simp) ?_
                refine AllReadyH.cons rfl (fun K hK => ?_) (AllReadyH.cons rfl (fun K hK => ?_) AllReadyH.nil)
                · refine step_appI2 (some 48) rfl rfl (.tmp 44) (.tmp 47) rfl wr.heap.size (.slice (some ⟨wd.heap.size, 0, none⟩) 0 0) (.slice (some ⟨b1, off1, none⟩) j oc) [] (L.take j) rfl rfl hwA (HSL.out _ hbA) (by simp <;> omega) hbA.size ?_
                  intro v4 w4 ho4x hg4
                  have hb4 : Below wr.heap.size wr w4 := hbA.grown hg4 hbA.size (fun g hg => (hwA.lt g hg).1)
                  have ho4 : Own w4 wr.heap.size v4 (L.take j) := ho4x
                  refine hK.out _ _ hb4 (fun hH4 => ?_)
                  clear hK K
                  try simp only [Act.put, List.setIfInBounds_toArray, List.set_cons_zero, List.set_cons_succ]
                  refine wpAnyH_ready (rs := [6]) (by kernel_rfl) (by simp) ?_
                  refine AllReadyH.cons rfl (fun K hK => ?_) AllReadyH.nil
                  go_simp
                  refine hK.out _ _ (hb4.alloc hb4.size _) (fun hHC => ?_)
                  clear hK K
                  try simp only [Act.put, List.setIfInBounds_toArray, List.set_cons_zero, List.set_cons_succ]
                  have hbC : Below wr.heap.size wr (w4.alloc (.cells #[.int .i64 x] 3)) := hb4.alloc hb4.size _
                  have hzC : w4.heap.size < (w4.alloc (.cells #[.int .i64 x] 3)).heap.size := by simp
                  have hoC : (w4.alloc (.cells #[.int .i64 x] 3)).heap[w4.heap.size]? = some (.cells #[.int .i64 x] 3 (0, 0)) := heap_hit0 rfl
                  have ho42 := ho4.alloc (.cells #[.int .i64 x] 3)
                  generalize w4.alloc (.cells #[.int .i64 x] 3) = xC at *
                  refine wpAnyH_ready (rs := [7]) (by kernel_rfl) (by simp) ?_
                  refine AllReadyH.cons rfl (fun K hK => ?_) AllReadyH.nil
                  refine step_appI2 (some 51) rfl rfl (.tmp 48) (.tmp 50) rfl wr.heap.size v4 (.slice (some ⟨w4.heap.size, 0, none⟩) 1 1) (L.take j) [x] rfl rfl ho42 (one_ints hoC hx1 hx2) (by simp <;> omega) hbC.size ?_
                  intro v7 w7 ho7x hg7
                  have hb7 : Below wr.heap.size wr w7 := hbC.grown hg7 hbC.size (fun g hg => (ho42.lt g hg).1)
                  have ho7 : Own w7 wr.heap.size v7 ((L.take j) ++ [x]) := ho7x
                  refine hK.out _ _ hb7 (fun hH7 => ?_)
                  clear hK K
                  try simp only [Act.put, List.setIfInBounds_toArray, List.set_cons_zero, List.set_cons_succ]
                  refine wpAnyH_ready (rs := [11]) (by kernel_rfl) (by simp) ?_
                  refine AllReadyH.cons rfl (fun K hK => ?_) AllReadyH.nil
                  refine step_appI2 (some 55) rfl rfl (.tmp 51) (.tmp 54) rfl wr.heap.size v7 (.slice (if oc = j then some ⟨b1, off1, none⟩ else some ⟨b1, off1 + j, none⟩) (L.length - j) (oc - j)) ((L.take j) ++ [x]) (L.drop j) rfl rfl ho7 (HSR.out _ hb7) (by simp <;> omega) hb7.size ?_
                  intro v11 w11 ho11x hg11
                  have hb11 : Below wr.heap.size wr w11 := hb7.grown hg11 hb7.size (fun g hg => (ho7.lt g hg).1)
                  have ho11 : Own w11 wr.heap.size v11 ((L.take j) ++ [x] ++ (L.drop j)) := ho11x
                  refine hK.out _ _ hb11 (fun hH11 => ?_)
                  clear hK K
                  try simp only [Act.put, List.setIfInBounds_toArray, List.set_cons_zero, List.set_cons_succ]
                  refine takeC (i := 12) (v := v11) (some 3) rfl rfl (by kernel_rfl) (by kernel_rfl) (by kernel_rfl) (fun _ _ _ h => h) (Or.inl ⟨by rfl, ?_⟩) (by assumption) ?_
                  · intro wz hSw; go_simp
                  try simp only [Act.put, List.setIfInBounds_toArray, List.set_cons_zero, List.set_cons_succ]
                  refine wpAnyH_done (by kernel_rfl) ?_ _
                  go_wp2
                  go_roundw
                  case rel => exact ⟨k + 1, HKL.out, by go_num, own_to (ho11.mono HB.out.size) HLS.out, HB.out.trans (hb11.mono HB.out.size)⟩
                  case measure => have := HKL.out; simp [intOf]; omega
                · go_simp
                  refine hK.out _ _ (hbA.alloc hbA.size _) (fun hHC => ?_)
                  clear hK K
                  try simp only [Act.put, List.setIfInBounds_toArray, List.set_cons_zero, List.set_cons_succ]
                  have hbC : Below wr.heap.size wr (xA.alloc (.cells #[.int .i64 x] 3)) := hbA.alloc hbA.size _
                  have hzC : xA.heap.size < (xA.alloc (.cells #[.int .i64 x] 3)).heap.size := by simp
                  have hoC : (xA.alloc (.cells #[.int .i64 x] 3)).heap[xA.heap.size]? = some (.cells #[.int .i64 x] 3 (0, 0)) := heap_hit0 rfl
                  have hwA2 := hwA.alloc (.cells #[.int .i64 x] 3)
                  generalize xA.alloc (.cells #[.int .i64 x] 3) = xC at *
                  refine wpAnyH_ready (rs := [4]) (by kernel_rfl) (by simp) ?_
                  refine AllReadyH.cons rfl (fun K hK => ?_) AllReadyH.nil
                  refine step_appI2 (some 48) rfl rfl (.tmp 44) (.tmp 47) rfl wr.heap.size (.slice (some ⟨wd.heap.size, 0, none⟩) 0 0) (.slice (some ⟨b1, off1, none⟩) j oc) [] (L.take j) rfl rfl hwA2 (HSL.out _ hbC) (by simp <;> omega) hbC.size ?_
                  intro v4 w4 ho4x hg4
                  have hb4 : Below wr.heap.size wr w4 := hbC.grown hg4 hbC.size (fun g hg => (hwA2.lt g hg).1)
                  have ho4 : Own w4 wr.heap.size v4 (L.take j) := ho4x
                  refine hK.out _ _ hb4 (fun hH4 => ?_)
                  clear hK K
                  try simp only [Act.put, List.setIfInBounds_toArray, List.set_cons_zero, List.set_cons_succ]
                  have hoD := one_kept hoC hg4 (by simp [Value.ownBlock]; omega)
                  refine wpAnyH_ready (rs := [7]) (by kernel_rfl) (by simp) ?_
                  refine AllReadyH.cons rfl (fun K hK => ?_) AllReadyH.nil
                  refine step_appI2 (some 51) rfl rfl (.tmp 48) (.tmp 50) rfl wr.heap.size v4 (.slice (some ⟨xA.heap.size, 0, none⟩) 1 1) (L.take j) [x] rfl rfl ho4 (one_ints hoD hx1 hx2) (by simp <;> omega) hb4.size ?_
                  intro v7 w7 ho7x hg7
                  have hb7 : Below wr.heap.size wr w7 := hb4.grown hg7 hb4.size (fun g hg => (ho4.lt g hg).1)
                  have ho7 : Own w7 wr.heap.size v7 ((L.take j) ++ [x]) := ho7x
                  refine hK.out _ _ hb7 (fun hH7 => ?_)
                  clear hK K
                  try simp only [Act.put, List.setIfInBounds_toArray, List.set_cons_zero, List.set_cons_succ]
                  refine wpAnyH_ready (rs := [11]) (by kernel_rfl) (by simp) ?_
                  refine AllReadyH.cons rfl (fun K hK => ?_) AllReadyH.nil
                  refine step_appI2 (some 55) rfl rfl (.tmp 51) (.tmp 54) rfl wr.heap.size v7 (.slice (if oc = j then some ⟨b1, off1, none⟩ else some ⟨b1, off1 + j, none⟩) (L.length - j) (oc - j)) ((L.take j) ++ [x]) (L.drop j) rfl rfl ho7 (HSR.out _ hb7) (by simp <;> omega) hb7.size ?_
                  intro v11 w11 ho11x hg11
                  have hb11 : Below wr.heap.size wr w11 := hb7.grown hg11 hb7.size (fun g hg => (ho7.lt g hg).1)
                  have ho11 : Own w11 wr.heap.size v11 ((L.take j) ++ [x] ++ (L.drop j)) := ho11x
                  refine hK.out _ _ hb11 (fun hH11 => ?_)
                  clear hK K
                  try simp only [Act.put, List.setIfInBounds_toArray, List.set_cons_zero, List.set_cons_succ]
                  refine takeC (i := 12) (v := v11) (some 3) rfl rfl (by kernel_rfl) (by kernel_rfl) (by kernel_rfl) (fun _ _ _ h => h) (Or.inl ⟨by rfl, ?_⟩) (by assumption) ?_
                  · intro wz hSw; go_simp
                  try simp only [Act.put, List.setIfInBounds_toArray, List.set_cons_zero, List.set_cons_succ]
                  refine wpAnyH_done (by kernel_rfl) ?_ _
                  go_wp2
                  go_roundw
                  case rel => exact ⟨k + 1, HKL.out, by go_num, own_to (ho11.mono HB.out.size) HLS.out, HB.out.trans (hb11.mono HB.out.size)⟩
                  case measure => have := HKL.out; simp [intOf]; omega
              · go_simp
                refine hK.out _ _ (hb0.alloc hb0.size _) (fun hHB => ?_)
                clear hK K
                try simp only [Act.put, List.setIfInBounds_toArray, List.set_cons_zero, List.set_cons_succ]
                have hbB : Below wr.heap.size wr (wd.alloc (.cells #[.int .i64 x] 3)) := hb0.alloc hb0.size _
                have hzB : wd.heap.size < (wd.alloc (.cells #[.int .i64 x] 3)).heap.size := by simp
                have hoB : (wd.alloc (.cells #[.int .i64 x] 3)).heap[wd.heap.size]? = some (.cells #[.int .i64 x] 3 (0, 0)) := heap_hit0 rfl
                generalize wd.alloc (.cells #[.int .i64 x] 3) = xB at *
                refine wpAnyH_ready (rs := [0]) (by kernel_rfl) (by simp) ?_
                refine AllReadyH.cons rfl (fun K hK => ?_) AllReadyH.nil
                go_simp
                refine hK.out _ _ (hbB.alloc hbB.size _) (fun hHA => ?_)
                clear hK K
                try simp only [Act.put, List.setIfInBounds_toArray, List.set_cons_zero, List.set_cons_succ]
                have hbA : Below wr.heap.size wr (xB.alloc (.cells #[] 3)) := hbB.alloc hbB.size _
                have hzA : xB.heap.size < (xB.alloc (.cells #[] 3)).heap.size := by simp
                have hwA : Own (xB.alloc (.cells #[] 3)) wr.heap.size (.slice (some ⟨xB.heap.size, 0, none⟩) 0 0) [] := own_built0 hbB.size
                have hoB2 := one_alloc hoB (.cells #[] 3)
                generalize xB.alloc (.cells #[] 3) = xA at *
                refine wpAnyH_ready (rs := [4]) (by kernel_rfl) (by simp) ?_
                refine AllReadyH.cons rfl (fun K hK => ?_) AllReadyH.nil
                refine step_appI2 (some 48) rfl rfl (.tmp 44) (.tmp 47) rfl wr.heap.size (.slice (some ⟨xB.heap.size, 0, none⟩) 0 0) (.slice (some ⟨b1, off1, none⟩) j oc) [] (L.take j) rfl rfl hwA (HSL.out _ hbA) (by simp <;> omega) hbA.size ?_
                intro v4 w4 ho4x hg4
                have hb4 : Below wr.heap.size wr w4 := hbA.grown hg4 hbA.size (fun g hg => (hwA.lt g hg).1)
                have ho4 : Own w4 wr.heap.size v4 (L.take j) := ho4x
                refine hK.out _ _ hb4 (fun hH4 => ?_)
                clear hK K
                try simp only [Act.put, List.setIfInBounds_toArray, List.set_cons_zero, List.set_cons_succ]
                have hoD := one_kept hoB2 hg4 (by simp [Value.ownBlock]; omega)
                refine wpAnyH_ready (rs := [7]) (by kernel_rfl) (by simp) ?_
                refine AllReadyH.cons rfl (fun K hK => ?_) AllReadyH.nil
                refine step_appI2 (some 51) rfl rfl (.tmp 48) (.tmp 50) rfl wr.heap.size v4 (.slice (some ⟨wd.heap.size, 0, none⟩) 1 1) (L.take j) [x] rfl rfl ho4 (one_ints hoD hx1 hx2) (by simp <;> omega) hb4.size ?_
                intro v7 w7 ho7x hg7
                have hb7 : Below wr.heap.size wr w7 := hb4.grown hg7 hb4.size (fun g hg => (ho4.lt g hg).1)
                have ho7 : Own w7 wr.heap.size v7 ((L.take j) ++ [x]) := ho7x
                refine hK.out _ _ hb7 (fun hH7 => ?_)
                clear hK K
                try simp only [Act.put, List.setIfInBounds_toArray, List.set_cons_zero, List.set_cons_succ]
                refine wpAnyH_ready (rs := [11]) (by kernel_rfl) (by simp) ?_
                refine AllReadyH.cons rfl (fun K hK => ?_) AllReadyH.nil
                refine step_appI2 (some 55) rfl rfl (.tmp 51) (.tmp 54) rfl wr.heap.size v7 (.slice (if oc = j then some ⟨b1, off1, none⟩ else some ⟨b1, off1 + j, none⟩) (L.length - j) (oc - j)) ((L.take j) ++ [x]) (L.drop j) rfl rfl ho7 (HSR.out _ hb7) (by simp <;> omega) hb7.size ?_
                intro v11 w11 ho11x hg11
                have hb11 : Below wr.heap.size wr w11 := hb7.grown hg11 hb7.size (fun g hg => (ho7.lt g hg).1)
                have ho11 : Own w11 wr.heap.size v11 ((L.take j) ++ [x] ++ (L.drop j)) := ho11x
                refine hK.out _ _ hb11 (fun hH11 => ?_)
                clear hK K
                try simp only [Act.put, List.setIfInBounds_toArray, List.set_cons_zero, List.set_cons_succ]
                refine takeC (i := 12) (v := v11) (some 3) rfl rfl (by kernel_rfl) (by kernel_rfl) (by kernel_rfl) (fun _ _ _ h => h) (Or.inl ⟨by rfl, ?_⟩) (by assumption) ?_
                · intro wz hSw; go_simp
                try simp only [Act.put, List.setIfInBounds_toArray, List.set_cons_zero, List.set_cons_succ]
                refine wpAnyH_done (by kernel_rfl) ?_ _
                go_wp2
                go_roundw
                case rel => exact ⟨k + 1, HKL.out, by go_num, own_to (ho11.mono HB.out.size) HLS.out, HB.out.trans (hb11.mono HB.out.size)⟩
                case measure => have := HKL.out; simp [intOf]; omega
        · have HIN := Lib.hid (HINS.out j hj HJ.out (fun h => absurd h hjl))
          have HLS : Hid (mergedL (T.take (k + 1)) = L.take j ++ [x] ++ L.drop j) := by show _ = _; rw [HTK.out, HIN.out, if_neg (fun h => hjl h.1)]
          have hje : j = L.length := by omega
          have hjb : decide ((j : Int) < (L.length : Int)) = false := by simp; omega
          rcases HOWN.out.2 with ⟨e, _⟩ | ⟨g, cap, cur, e, _⟩
          · injection e with e1 e2 e3
            subst e1
            subst e3
            obtain rfl : L = [] := List.eq_nil_of_length_eq_zero e2
            obtain rfl : j = 0 := by simpa using hje
            have HLS0 : Hid (mergedL (T.take (k + 1)) = [] ++ [x] ++ []) := HLS.out
            have HSL : Hid (∀ X, Below wr.heap.size wr X → IsInts X (.slice none 0 0) ([] : List Int)) := fun X hX => IsInts.nil X
            have HSR := HSL
            clear hje hjl HIN HLS HINS HJ hj e2 HLV hl8 HLL
            go_wp2_with fail
            refine wp_region_held_drew (S := fun wx => Below wr.heap.size wr wx) (by kernel_rfl) (Below.refl _ _).drew (fun hHeld => ?_)
            have hb0 : Below wr.heap.size wr wr.drew := (Below.refl _ _).drew
            generalize wr.drew = wd at *
            refine takeC (i := 1) (v := .slice none 0 0) (some 45) rfl rfl (by kernel_rfl) (by kernel_rfl) (by kernel_rfl) (fun _ _ _ h => h) (Or.inl ⟨by rfl, ?_⟩) (by assumption) ?_
            · intro wz hSw; go_simp
            try simp only [Act.put, List.setIfInBounds_toArray, List.set_cons_zero, List.set_cons_succ]
            refine takeC (i := 2) (v := .int .i64 0) (some 46) rfl rfl (by kernel_rfl) (by kernel_rfl) (by kernel_rfl) (fun _ _ _ h => h) (Or.inl ⟨by rfl, ?_⟩) (by assumption) ?_
            · intro wz hSw; go_simp
            try simp only [Act.put, List.setIfInBounds_toArray, List.set_cons_zero, List.set_cons_succ]
            refine takeC (i := 3) (v := .slice none 0 0) (some 47) rfl rfl (by kernel_rfl) (by kernel_rfl) (by kernel_rfl) (fun _ _ _ h => h) (Or.inl ⟨by rfl, ?_⟩) (by assumption) ?_
            · intro wz hSw; go_simp
            try simp only [Act.put, List.setIfInBounds_toArray, List.set_cons_zero, List.set_cons_succ]
            refine takeC (i := 5) (v := .int .i64 x) (some 49) rfl rfl (by kernel_rfl) (by kernel_rfl) (by kernel_rfl) (fun _ _ _ h => h) (Or.inl ⟨by rfl, ?_⟩) (by assumption) ?_
            · intro wz hSw; go_simp
            try simp only [Act.put, List.setIfInBounds_toArray, List.set_cons_zero, List.set_cons_succ]
            refine takeC (i := 8) (v := .slice none 0 0) (some 52) rfl rfl (by kernel_rfl) (by kernel_rfl) (by kernel_rfl) (fun _ _ _ h => h) (Or.inl ⟨by rfl, ?_⟩) (by assumption) ?_
            · intro wz hSw; go_simp
            try simp only [Act.put, List.setIfInBounds_toArray, List.set_cons_zero, List.set_cons_succ]
            refine takeC (i := 9) (v := .int .i64 0) (some 53) rfl rfl (by kernel_rfl) (by kernel_rfl) (by kernel_rfl) (fun _ _ _ h => h) (Or.inl ⟨by rfl, ?_⟩) (by assumption) ?_
            · intro wz hSw; go_simp
            try simp only [Act.put, List.setIfInBounds_toArray, List.set_cons_zero, List.set_cons_succ]
            refine takeC (i := 10) (v := .slice none 0 0) (some 54) rfl rfl (by kernel_rfl) (by kernel_rfl) (by kernel_rfl) (fun _ _ _ h => h) (Or.inl ⟨by rfl, ?_⟩) (by assumption) ?_
            · intro wz hSw; go_simp
            try simp only [Act.put, List.setIfInBounds_toArray, List.set_cons_zero, List.set_cons_succ]
            refine wpAnyH_ready (rs := [0, 6]) (by kernel_rfl) (by simp) ?_
            refine AllReadyH.cons rfl (fun K hK => ?_) (AllReadyH.cons rfl (fun K hK => ?_) AllReadyH.nil)
            · go_simp
              refine hK.out _ _ (hb0.alloc hb0.size _) (fun hHA => ?_)
              clear hK K
              try simp only [Act.put, List.setIfInBounds_toArray, List.set_cons_zero, List.set_cons_succ]
              have hbA : Below wr.heap.size wr (wd.alloc (.cells #[] 3)) := hb0.alloc hb0.size _
              have hzA : wd.heap.size < (wd.alloc (.cells #[] 3)).heap.size := by simp
              have hwA : Own (wd.alloc (.cells #[] 3)) wr.heap.size (.slice (some ⟨wd.heap.size, 0, none⟩) 0 0) [] := own_built0 hb0.size
              generalize wd.alloc (.cells #[] 3) = xA at *
              refine wpAnyH_ready (rs := [4, 6]) (by kernel_rfl) (by simp) ?_
              refine AllReadyH.cons rfl (fun K hK => ?_) (AllReadyH.cons rfl (fun K hK => ?_) AllReadyH.nil)
              · refine step_appI2 (some 48) rfl rfl (.tmp 44) (.tmp 47) rfl wr.heap.size (.slice (some ⟨wd.heap.size, 0, none⟩) 0 0) (.slice none 0 0) [] ([] : List Int) rfl rfl hwA (HSL.out _ hbA) (by simp <;> omega) hbA.size ?_
                intro v4 w4 ho4x hg4
                have hb4 : Below wr.heap.size wr w4 := hbA.grown hg4 hbA.size (fun g hg => (hwA.lt g hg).1)
                have ho4 : Own w4 wr.heap.size v4 ([] : List Int) := ho4x
                refine hK.out _ _ hb4 (fun hH4 => ?_)
                clear hK K
                try simp only [Act.put, List.setIfInBounds_toArray, List.set_cons_zero, List.set_cons_succ]
                refine wpAnyH_ready (rs := [6]) (by kernel_rfl) (by simp) ?_
                refine AllReadyH.cons rfl (fun K hK => ?_) AllReadyH.nil
                go_simp
                refine hK.out _ _ (hb4.alloc hb4.size _) (fun hHC => ?_)
                clear hK K
                try simp only [Act.put, List.setIfInBounds_toArray, List.set_cons_zero, List.set_cons_succ]
                have hbC : Below wr.heap.size wr (w4.alloc (.cells #[.int .i64 x] 3)) := hb4.alloc hb4.size _
                have hzC : w4.heap.size < (w4.alloc (.cells #[.int .i64 x] 3)).heap.size := by simp
                have hoC : (w4.alloc (.cells #[.int .i64 x] 3)).heap[w4.heap.size]? = some (.cells #[.int .i64 x] 3 (0, 0)) := heap_hit0 rfl
                have ho42 := ho4.alloc (.cells #[.int .i64 x] 3)
                generalize w4.alloc (.cells #[.int .i64 x] 3) = xC at *
                refine wpAnyH_ready (rs := [7]) (by kernel_rfl) (by simp) ?_
                refine AllReadyH.cons rfl (fun K hK => ?_) AllReadyH.nil
                refine step_appI2 (some 51) rfl rfl (.tmp 48) (.tmp 50) rfl wr.heap.size v4 (.slice (some ⟨w4.heap.size, 0, none⟩) 1 1) ([] : List Int) [x] rfl rfl ho42 (one_ints hoC hx1 hx2) (by simp <;> omega) hbC.size ?_
                intro v7 w7 ho7x hg7
                have hb7 : Below wr.heap.size wr w7 := hbC.grown hg7 hbC.size (fun g hg => (ho42.lt g hg).1)
                have ho7 : Own w7 wr.heap.size v7 (([] : List Int) ++ [x]) := ho7x
                refine hK.out _ _ hb7 (fun hH7 => ?_)
                clear hK K
                try simp only [Act.put, List.setIfInBounds_toArray, List.set_cons_zero, List.set_cons_succ]
                refine wpAnyH_ready (rs := [11]) (by kernel_rfl) (by simp) ?_
                refine AllReadyH.cons rfl (fun K hK => ?_) AllReadyH.nil
                refine step_appI2 (some 55) rfl rfl (.tmp 51) (.tmp 54) rfl wr.heap.size v7 (.slice none 0 0) (([] : List Int) ++ [x]) ([] : List Int) rfl rfl ho7 (HSR.out _ hb7) (by simp <;> omega) hb7.size ?_
                intro v11 w11 ho11x hg11
                have hb11 : Below wr.heap.size wr w11 := hb7.grown hg11 hb7.size (fun g hg => (ho7.lt g hg).1)
                have ho11 : Own w11 wr.heap.size v11 (([] : List Int) ++ [x] ++ ([] : List Int)) := ho11x
                refine hK.out _ _ hb11 (fun hH11 => ?_)
                clear hK K
                try simp only [Act.put, List.setIfInBounds_toArray, List.set_cons_zero, List.set_cons_succ]
                refine takeC (i := 12) (v := v11) (some 3) rfl rfl (by kernel_rfl) (by kernel_rfl) (by kernel_rfl) (fun _ _ _ h => h) (Or.inl ⟨by rfl, ?_⟩) (by assumption) ?_
                · intro wz hSw; go_simp
                try simp only [Act.put, List.setIfInBounds_toArray, List.set_cons_zero, List.set_cons_succ]
                refine wpAnyH_done (by kernel_rfl) ?_ _
                go_wp2
                go_roundw
                case rel => exact ⟨k + 1, HKL.out, by go_num, own_to (ho11.mono HB.out.size) HLS0.out, HB.out.trans (hb11.mono HB.out.size)⟩
                case measure => have := HKL.out; simp [intOf]; omega
              · go_simp
                refine hK.out _ _ (hbA.alloc hbA.size _) (fun hHC => ?_)
                clear hK K
                try simp only [Act.put, List.setIfInBounds_toArray, List.set_cons_zero, List.set_cons_succ]
                have hbC : Below wr.heap.size wr (xA.alloc (.cells #[.int .i64 x] 3)) := hbA.alloc hbA.size _
                have hzC : xA.heap.size < (xA.alloc (.cells #[.int .i64 x] 3)).heap.size := by simp
                have hoC : (xA.alloc (.cells #[.int .i64 x] 3)).heap[xA.heap.size]? = some (.cells #[.int .i64 x] 3 (0, 0)) := heap_hit0 rfl
                have hwA2 := hwA.alloc (.cells #[.int .i64 x] 3)
                generalize xA.alloc (.cells #[.int .i64 x] 3) = xC at *
                refine wpAnyH_ready (rs := [4]) (by kernel_rfl) (by simp) ?_
                refine AllReadyH.cons rfl (fun K hK => ?_) AllReadyH.nil
                refine step_appI2 (some 48) rfl rfl (.tmp 44) (.tmp 47) rfl wr.heap.size (.slice (some ⟨wd.heap.size, 0, none⟩) 0 0) (.slice none 0 0) [] ([] : List Int) rfl rfl hwA2 (HSL.out _ hbC) (by simp <;> omega) hbC.size ?_
                intro v4 w4 ho4x hg4
                have hb4 : Below wr.heap.size wr w4 := hbC.grown hg4 hbC.size (fun g hg => (hwA2.lt g hg).1)
                have ho4 : Own w4 wr.heap.size v4 ([] : List Int) := ho4x
                refine hK.out _ _ hb4 (fun hH4 => ?_)
                clear hK K
                try simp only [Act.put, List.setIfInBounds_toArray, List.set_cons_zero, List.set_cons_succ]
                have hoD := one_kept hoC hg4 (by simp [Value.ownBlock]; omega)
                refine wpAnyH_ready (rs := [7]) (by kernel_rfl) (by simp) ?_
                refine AllReadyH.cons rfl (fun K hK => ?_) AllReadyH.nil
                refine step_appI2 (some 51) rfl rfl (.tmp 48) (.tmp 50) rfl wr.heap.size v4 (.slice (some ⟨xA.heap.size, 0, none⟩) 1 1) ([] : List Int) [x] rfl rfl ho4 (one_ints hoD hx1 hx2) (by simp <;> omega) hb4.size ?_
                intro v7 w7 ho7x hg7
                have hb7 : Below wr.heap.size wr w7 := hb4.grown hg7 hb4.size (fun g hg => (ho4.lt g hg).1)
                have ho7 : Own w7 wr.heap.size v7 (([] : List Int) ++ [x]) := ho7x
                refine hK.out _ _ hb7 (fun hH7 => ?_)
                clear hK K
                try simp only [Act.put, List.setIfInBounds_toArray, List.set_cons_zero, List.set_cons_succ]
                refine wpAnyH_ready (rs := [11]) (by kernel_rfl) (by simp) ?_
                refine AllReadyH.cons rfl (fun K hK => ?_) AllReadyH.nil
                refine step_appI2 (some 55) rfl rfl (.tmp 51) (.tmp 54) rfl wr.heap.size v7 (.slice none 0 0) (([] : List Int) ++ [x]) ([] : List Int) rfl rfl ho7 (HSR.out _ hb7) (by simp <;> omega) hb7.size ?_
                intro v11 w11 ho11x hg11
                have hb11 : Below wr.heap.size wr w11 := hb7.grown hg11 hb7.size (fun g hg => (ho7.lt g hg).1)
                have ho11 : Own w11 wr.heap.size v11 (([] : List Int) ++ [x] ++ ([] : List Int)) := ho11x
                refine hK.out _ _ hb11 (fun hH11 => ?_)
                clear hK K
                try simp only [Act.put, List.setIfInBounds_toArray, List.set_cons_zero, List.set_cons_succ]
                refine takeC (i := 12) (v := v11) (some 3) rfl rfl (by kernel_rfl) (by kernel_rfl) (by kernel_rfl) (fun _ _ _ h => h) (Or.inl ⟨by rfl, ?_⟩) (by assumption) ?_
                · intro wz hSw; go_simp
                try simp only [Act.put, List.setIfInBounds_toArray, List.set_cons_zero, List.set_cons_succ]
                refine wpAnyH_done (by kernel_rfl) ?_ _
                go_wp2
                go_roundw
                case rel => exact ⟨k + 1, HKL.out, by go_num, own_to (ho11.mono HB.out.size) HLS0.out, HB.out.trans (hb11.mono HB.out.size)⟩
                case measure => have := HKL.out; simp [intOf]; omega
            · go_simp
              refine hK.out _ _ (hb0.alloc hb0.size _) (fun hHB => ?_)
              clear hK K
              try simp only [Act.put, List.setIfInBounds_toArray, List.set_cons_zero, List.set_cons_succ]
              have hbB : Below wr.heap.size wr (wd.alloc (.cells #[.int .i64 x] 3)) := hb0.alloc hb0.size _
              have hzB : wd.heap.size < (wd.alloc (.cells #[.int .i64 x] 3)).heap.size := by simp
              have hoB : (wd.alloc (.cells #[.int .i64 x] 3)).heap[wd.heap.size]? = some (.cells #[.int .i64 x] 3 (0, 0)) := heap_hit0 rfl
              generalize wd.alloc (.cells #[.int .i64 x] 3) = xB at *
              refine wpAnyH_ready (rs := [0]) (by kernel_rfl) (by simp) ?_
              refine AllReadyH.cons rfl (fun K hK => ?_) AllReadyH.nil
              go_simp
              refine hK.out _ _ (hbB.alloc hbB.size _) (fun hHA => ?_)
              clear hK K
              try simp only [Act.put, List.setIfInBounds_toArray, List.set_cons_zero, List.set_cons_succ]
              have hbA : Below wr.heap.size wr (xB.alloc (.cells #[] 3)) := hbB.alloc hbB.size _
              have hzA : xB.heap.size < (xB.alloc (.cells #[] 3)).heap.size := by simp
              have hwA : Own (xB.alloc (.cells #[] 3)) wr.heap.size (.slice (some ⟨xB.heap.size, 0, none⟩) 0 0) [] := own_built0 hbB.size
              have hoB2 := one_alloc hoB (.cells #[] 3)
              generalize xB.alloc (.cells #[] 3) = xA at *
              refine wpAnyH_ready (rs := [4]) (by kernel_rfl) (by simp) ?_
              refine AllReadyH.cons rfl (fun K hK => ?_) AllReadyH.nil
              refine step_appI2 (some 48) rfl rfl (.tmp 44) (.tmp 47) rfl wr.heap.size (.slice (some ⟨xB.heap.size, 0, none⟩) 0 0) (.slice none 0 0) [] ([] : List Int) rfl rfl hwA (HSL.out _ hbA) (by simp <;> omega) hbA.size ?_
              intro v4 w4 ho4x hg4
              have hb4 : Below wr.heap.size wr w4 := hbA.grown hg4 hbA.size (fun g hg => (hwA.lt g hg).1)
              have ho4 : Own w4 wr.heap.size v4 ([] : List Int) := ho4x
              refine hK.out _ _ hb4 (fun hH4 => ?_)
              clear hK K
              try simp only [Act.put, List.setIfInBounds_toArray, List.set_cons_zero, List.set_cons_succ]
              have hoD := one_kept hoB2 hg4 (by simp [Value.ownBlock]; omega)
              refine wpAnyH_ready (rs := [7]) (by kernel_rfl) (by simp) ?_
              refine AllReadyH.cons rfl (fun K hK => ?_) AllReadyH.nil
              refine step_appI2 (some 51) rfl rfl (.tmp 48) (.tmp 50) rfl wr.heap.size v4 (.slice (some ⟨wd.heap.size, 0, none⟩) 1 1) ([] : List Int) [x] rfl rfl ho4 (one_ints hoD hx1 hx2) (by simp <;> omega) hb4.size ?_
              intro v7 w7 ho7x hg7
              have hb7 : Below wr.heap.size wr w7 := hb4.grown hg7 hb4.size (fun g hg => (ho4.lt g hg).1)
              have ho7 : Own w7 wr.heap.size v7 (([] : List Int) ++ [x]) := ho7x
              refine hK.out _ _ hb7 (fun hH7 => ?_)
              clear hK K
              try simp only [Act.put, List.setIfInBounds_toArray, List.set_cons_zero, List.set_cons_succ]
              refine wpAnyH_ready (rs := [11]) (by kernel_rfl) (by simp) ?_
              refine AllReadyH.cons rfl (fun K hK => ?_) AllReadyH.nil
              refine step_appI2 (some 55) rfl rfl (.tmp 51) (.tmp 54) rfl wr.heap.size v7 (.slice none 0 0) (([] : List Int) ++ [x]) ([] : List Int) rfl rfl ho7 (HSR.out _ hb7) (by simp <;> omega) hb7.size ?_
              intro v11 w11 ho11x hg11
              have hb11 : Below wr.heap.size wr w11 := hb7.grown hg11 hb7.size (fun g hg => (ho7.lt g hg).1)
              have ho11 : Own w11 wr.heap.size v11 (([] : List Int) ++ [x] ++ ([] : List Int)) := ho11x
              refine hK.out _ _ hb11 (fun hH11 => ?_)
              clear hK K
              try simp only [Act.put, List.setIfInBounds_toArray, List.set_cons_zero, List.set_cons_succ]
              refine takeC (i := 12) (v := v11) (some 3) rfl rfl (by kernel_rfl) (by kernel_rfl) (by kernel_rfl) (fun _ _ _ h => h) (Or.inl ⟨by rfl, ?_⟩) (by assumption) ?_
              · intro wz hSw; go_simp
              try simp only [Act.put, List.setIfInBounds_toArray, List.set_cons_zero, List.set_cons_succ]
              refine wpAnyH_done (by kernel_rfl) ?_ _
              go_wp2
              go_roundw
              case rel => exact ⟨k + 1, HKL.out, by go_num, own_to (ho11.mono HB.out.size) HLS0.out, HB.out.trans (hb11.mono HB.out.size)⟩
              case measure => have := HKL.out; simp [intOf]; omega
          · injection e with e1 e2 e3
            subst e1
            subst e3
            have HLS1 : Hid (mergedL (T.take (k + 1)) = L ++ [x] ++ []) := by
              show _ = _
              rw [HLS.out, hje, List.take_length, List.drop_length]
            have HSL : Hid (∀ X, Below wr.heap.size wr X → IsInts X (.slice (some ⟨g, 0, none⟩) L.length oc) L) := fun X hX => HLI.out.below hX (Nat.le_refl _)
            have HSR : Hid (∀ X, Below wr.heap.size wr X → IsInts X (.slice (if oc = L.length then some ⟨g, 0, none⟩ else some ⟨g, L.length, none⟩) 0 (oc - L.length)) ([] : List Int)) := fun X hX => by
              have h := (HLI.out.below hX (Nat.le_refl _)).from (Nat.le_refl _) (A := if oc = L.length then some ⟨g, 0, none⟩ else some ⟨g, L.length, none⟩) (by rw [Nat.zero_add])
              rw [List.drop_length, Nat.sub_self] at h
              exact h
            have hcap : L.length ≤ oc ∧ oc ≤ 9223372036854775807 := by obtain ⟨_, _, e, ⟨h1, _⟩, h2, _⟩ := HLI.out; injection e with _ _ e; subst e; exact ⟨h1, h2⟩
            have HZ := Lib.hid (show (L.length : Int) ≤ (oc : Int) by omega)
            subst hje
            clear hjl HIN HINS HJ hcap hj hl8 e2 HLS hjb
            go_wp2_with fail
            have z3 := HZ.out
            have hl8 := HLL.out
            refine wp_region_held_drew (S := fun wx => Below wr.heap.size wr wx) (by kernel_rfl) (Below.refl _ _).drew (fun hHeld => ?_)
            have hb0 : Below wr.heap.size wr wr.drew := (Below.refl _ _).drew
            generalize wr.drew = wd at *
            refine takeC (i := 1) (v := .slice (some ⟨g, 0, none⟩) L.length oc) (some 45) rfl rfl (by kernel_rfl) (by kernel_rfl) (by kernel_rfl) (fun _ _ _ h => h) (Or.inl ⟨by rfl, ?_⟩) (by assumption) ?_
            · intro wz hSw; go_simp
            try simp only [Act.put, List.setIfInBounds_toArray, List.set_cons_zero, List.set_cons_succ]
            refine takeC (i := 2) (v := .int .i64 (L.length : Int)) (some 46) rfl rfl (by kernel_rfl) (by kernel_rfl) (by kernel_rfl) (fun _ _ _ h => h) (Or.inl ⟨by rfl, ?_⟩) (by assumption) ?_
            · intro wz hSw; go_simp
            try simp only [Act.put, List.setIfInBounds_toArray, List.set_cons_zero, List.set_cons_succ]
            refine takeC (i := 3) (v := .slice (some ⟨g, 0, none⟩) L.length oc) (some 47) rfl rfl (by kernel_rfl) (by kernel_rfl) (by kernel_rfl) (fun _ _ _ h => h) (Or.inl ⟨by rfl, ?_⟩) (by assumption) ?_
            · intro wz hSw; go_simp
            try simp only [Act.put, List.setIfInBounds_toArray, List.set_cons_zero, List.set_cons_succ]
            refine takeC (i := 5) (v := .int .i64 x) (some 49) rfl rfl (by kernel_rfl) (by kernel_rfl) (by kernel_rfl) (fun _ _ _ h => h) (Or.inl ⟨by rfl, ?_⟩) (by assumption) ?_
            · intro wz hSw; go_simp
            try simp only [Act.put, List.setIfInBounds_toArray, List.set_cons_zero, List.set_cons_succ]
            refine takeC (i := 8) (v := .slice (some ⟨g, 0, none⟩) L.length oc) (some 52) rfl rfl (by kernel_rfl) (by kernel_rfl) (by kernel_rfl) (fun _ _ _ h => h) (Or.inl ⟨by rfl, ?_⟩) (by assumption) ?_
            · intro wz hSw; go_simp
            try simp only [Act.put, List.setIfInBounds_toArray, List.set_cons_zero, List.set_cons_succ]
            refine takeC (i := 9) (v := .int .i64 (L.length : Int)) (some 53) rfl rfl (by kernel_rfl) (by kernel_rfl) (by kernel_rfl) (fun _ _ _ h => h) (Or.inl ⟨by rfl, ?_⟩) (by assumption) ?_
            · intro wz hSw; go_simp
            try simp only [Act.put, List.setIfInBounds_toArray, List.set_cons_zero, List.set_cons_succ]
            refine takeC (i := 10) (v := .slice (if oc = L.length then some ⟨g, 0, none⟩ else some ⟨g, L.length, none⟩) 0 (oc - L.length)) (some 54) rfl rfl (by kernel_rfl) (by kernel_rfl) (by kernel_rfl) (fun _ _ _ h => h) (Or.inl ⟨by rfl, ?_⟩) (by assumption) ?_
            · intro wz hSw; go_simp
            try simp only [Act.put, List.setIfInBounds_toArray, List.set_cons_zero, List.set_cons_succ]
            refine wpAnyH_ready (rs := [0, 6]) (by kernel_rfl) (by simp) ?_
            refine AllReadyH.cons rfl (fun K hK => ?_) (AllReadyH.cons rfl (fun K hK => ?_) AllReadyH.nil)
            · go_simp
              refine hK.out _ _ (hb0.alloc hb0.size _) (fun hHA => ?_)
              clear hK K
              try simp only [Act.put, List.setIfInBounds_toArray, List.set_cons_zero, List.set_cons_succ]
              have hbA : Below wr.heap.size wr (wd.alloc (.cells #[] 3)) := hb0.alloc hb0.size _
              have hzA : wd.heap.size < (wd.alloc (.cells #[] 3)).heap.size := by simp
              have hwA : Own (wd.alloc (.cells #[] 3)) wr.heap.size (.slice (some ⟨wd.heap.size, 0, none⟩) 0 0) [] := own_built0 hb0.size
              generalize wd.alloc (.cells #[] 3) = xA at *
              refine wpAnyH_ready (rs := [4, 6]) (by kernel_rfl) (by simp) ?_
              refine AllReadyH.cons rfl (fun K hK => ?_) (AllReadyH.cons rfl (fun K hK => ?_) AllReadyH.nil)
              · refine step_appI2 (some 48) rfl rfl (.tmp 44) (.tmp 47) rfl wr.heap.size (.slice (some ⟨wd.heap.size, 0, none⟩) 0 0) (.slice (some ⟨g, 0, none⟩) L.length oc) [] L rfl rfl hwA (HSL.out _ hbA) (by simp <;> omega) hbA.size ?_
                intro v4 w4 ho4x hg4
                have hb4 : Below wr.heap.size wr w4 := hbA.grown hg4 hbA.size (fun g hg => (hwA.lt g hg).1)
                have ho4 : Own w4 wr.heap.size v4 L := ho4x
                refine hK.out _ _ hb4 (fun hH4 => ?_)
                clear hK K
                try simp only [Act.put, List.setIfInBounds_toArray, List.set_cons_zero, List.set_cons_succ]
                refine wpAnyH_ready (rs := [6]) (by kernel_rfl) (by simp) ?_
                refine AllReadyH.cons rfl (fun K hK => ?_) AllReadyH.nil
                go_simp
                refine hK.out _ _ (hb4.alloc hb4.size _) (fun hHC => ?_)
                clear hK K
                try simp only [Act.put, List.setIfInBounds_toArray, List.set_cons_zero, List.set_cons_succ]
                have hbC : Below wr.heap.size wr (w4.alloc (.cells #[.int .i64 x] 3)) := hb4.alloc hb4.size _
                have hzC : w4.heap.size < (w4.alloc (.cells #[.int .i64 x] 3)).heap.size := by simp
                have hoC : (w4.alloc (.cells #[.int .i64 x] 3)).heap[w4.heap.size]? = some (.cells #[.int .i64 x] 3 (0, 0)) := heap_hit0 rfl
                have ho42 := ho4.alloc (.cells #[.int .i64 x] 3)
                generalize w4.alloc (.cells #[.int .i64 x] 3) = xC at *
                refine wpAnyH_ready (rs := [7]) (by kernel_rfl) (by simp) ?_
                refine AllReadyH.cons rfl (fun K hK => ?_) AllReadyH.nil
                refine step_appI2 (some 51) rfl rfl (.tmp 48) (.tmp 50) rfl wr.heap.size v4 (.slice (some ⟨w4.heap.size, 0, none⟩) 1 1) L [x] rfl rfl ho42 (one_ints hoC hx1 hx2) (by simp <;> omega) hbC.size ?_
                intro v7 w7 ho7x hg7
                have hb7 : Below wr.heap.size wr w7 := hbC.grown hg7 hbC.size (fun g hg => (ho42.lt g hg).1)
                have ho7 : Own w7 wr.heap.size v7 (L ++ [x]) := ho7x
                refine hK.out _ _ hb7 (fun hH7 => ?_)
                clear hK K
                try simp only [Act.put, List.setIfInBounds_toArray, List.set_cons_zero, List.set_cons_succ]
                refine wpAnyH_ready (rs := [11]) (by kernel_rfl) (by simp) ?_
                refine AllReadyH.cons rfl (fun K hK => ?_) AllReadyH.nil
                refine step_appI2 (some 55) rfl rfl (.tmp 51) (.tmp 54) rfl wr.heap.size v7 (.slice (if oc = L.length then some ⟨g, 0, none⟩ else some ⟨g, L.length, none⟩) 0 (oc - L.length)) (L ++ [x]) ([] : List Int) rfl rfl ho7 (HSR.out _ hb7) (by simp <;> omega) hb7.size ?_
                intro v11 w11 ho11x hg11
                have hb11 : Below wr.heap.size wr w11 := hb7.grown hg11 hb7.size (fun g hg => (ho7.lt g hg).1)
                have ho11 : Own w11 wr.heap.size v11 (L ++ [x] ++ ([] : List Int)) := ho11x
                refine hK.out _ _ hb11 (fun hH11 => ?_)
                clear hK K
                try simp only [Act.put, List.setIfInBounds_toArray, List.set_cons_zero, List.set_cons_succ]
                refine takeC (i := 12) (v := v11) (some 3) rfl rfl (by kernel_rfl) (by kernel_rfl) (by kernel_rfl) (fun _ _ _ h => h) (Or.inl ⟨by rfl, ?_⟩) (by assumption) ?_
                · intro wz hSw; go_simp
                try simp only [Act.put, List.setIfInBounds_toArray, List.set_cons_zero, List.set_cons_succ]
                refine wpAnyH_done (by kernel_rfl) ?_ _
                go_wp2
                go_roundw
                case rel => exact ⟨k + 1, HKL.out, by go_num, own_to (ho11.mono HB.out.size) HLS1.out, HB.out.trans (hb11.mono HB.out.size)⟩
                case measure => have := HKL.out; simp [intOf]; omega
              · go_simp
                refine hK.out _ _ (hbA.alloc hbA.size _) (fun hHC => ?_)
                clear hK K
                try simp only [Act.put, List.setIfInBounds_toArray, List.set_cons_zero, List.set_cons_succ]
                have hbC : Below wr.heap.size wr (xA.alloc (.cells #[.int .i64 x] 3)) := hbA.alloc hbA.size _
                have hzC : xA.heap.size < (xA.alloc (.cells #[.int .i64 x] 3)).heap.size := by simp
                have hoC : (xA.alloc (.cells #[.int .i64 x] 3)).heap[xA.heap.size]? = some (.cells #[.int .i64 x] 3 (0, 0)) := heap_hit0 rfl
                have hwA2 := hwA.alloc (.cells #[.int .i64 x] 3)
                generalize xA.alloc (.cells #[.int .i64 x] 3) = xC at *
                refine wpAnyH_ready (rs := [4]) (by kernel_rfl) (by simp) ?_
                refine AllReadyH.cons rfl (fun K hK => ?_) AllReadyH.nil
                refine step_appI2 (some 48) rfl rfl (.tmp 44) (.tmp 47) rfl wr.heap.size (.slice (some ⟨wd.heap.size, 0, none⟩) 0 0) (.slice (some ⟨g, 0, none⟩) L.length oc) [] L rfl rfl hwA2 (HSL.out _ hbC) (by simp <;> omega) hbC.size ?_
                intro v4 w4 ho4x hg4
                have hb4 : Below wr.heap.size wr w4 := hbC.grown hg4 hbC.size (fun g hg => (hwA2.lt g hg).1)
                have ho4 : Own w4 wr.heap.size v4 L := ho4x
                refine hK.out _ _ hb4 (fun hH4 => ?_)
                clear hK K
                try simp only [Act.put, List.setIfInBounds_toArray, List.set_cons_zero, List.set_cons_succ]
                have hoD := one_kept hoC hg4 (by simp [Value.ownBlock]; omega)
                refine wpAnyH_ready (rs := [7]) (by kernel_rfl) (by simp) ?_
                refine AllReadyH.cons rfl (fun K hK => ?_) AllReadyH.nil
                refine step_appI2 (some 51) rfl rfl (.tmp 48) (.tmp 50) rfl wr.heap.size v4 (.slice (some ⟨xA.heap.size, 0, none⟩) 1 1) L [x] rfl rfl ho4 (one_ints hoD hx1 hx2) (by simp <;> omega) hb4.size ?_
                intro v7 w7 ho7x hg7
                have hb7 : Below wr.heap.size wr w7 := hb4.grown hg7 hb4.size (fun g hg => (ho4.lt g hg).1)
                have ho7 : Own w7 wr.heap.size v7 (L ++ [x]) := ho7x
                refine hK.out _ _ hb7 (fun hH7 => ?_)
                clear hK K
                try simp only [Act.put, List.setIfInBounds_toArray, List.set_cons_zero, List.set_cons_succ]
                refine wpAnyH_ready (rs := [11]) (by kernel_rfl) (by simp) ?_
                refine AllReadyH.cons rfl (fun K hK => ?_) AllReadyH.nil
                refine step_appI2 (some 55) rfl rfl (.tmp 51) (.tmp 54) rfl wr.heap.size v7 (.slice (if oc = L.length then some ⟨g, 0, none⟩ else some ⟨g, L.length, none⟩) 0 (oc - L.length)) (L ++ [x]) ([] : List Int) rfl rfl ho7 (HSR.out _ hb7) (by simp <;> omega) hb7.size ?_
                intro v11 w11 ho11x hg11
                have hb11 : Below wr.heap.size wr w11 := hb7.grown hg11 hb7.size (fun g hg => (ho7.lt g hg).1)
                have ho11 : Own w11 wr.heap.size v11 (L ++ [x] ++ ([] : List Int)) := ho11x
                refine hK.out _ _ hb11 (fun hH11 => ?_)
                clear hK K
                try simp only [Act.put, List.setIfInBounds_toArray, List.set_cons_zero, List.set_cons_succ]
                refine takeC (i := 12) (v := v11) (some 3) rfl rfl (by kernel_rfl) (by kernel_rfl) (by kernel_rfl) (fun _ _ _ h => h) (Or.inl ⟨by rfl, ?_⟩) (by assumption) ?_
                · intro wz hSw; go_simp
                try simp only [Act.put, List.setIfInBounds_toArray, List.set_cons_zero, List.set_cons_succ]
                refine wpAnyH_done (by kernel_rfl) ?_ _
                go_wp2
                go_roundw
                case rel => exact ⟨k + 1, HKL.out, by go_num, own_to (ho11.mono HB.out.size) HLS1.out, HB.out.trans (hb11.mono HB.out.size)⟩
                case measure => have := HKL.out; simp [intOf]; omega
            · go_simp
              refine hK.out _ _ (hb0.alloc hb0.size _) (fun hHB => ?_)
              clear hK K
              try simp only [Act.put, List.setIfInBounds_toArray, List.set_cons_zero, List.set_cons_succ]
              have hbB : Below wr.heap.size wr (wd.alloc (.cells #[.int .i64 x] 3)) := hb0.alloc hb0.size _
              have hzB : wd.heap.size < (wd.alloc (.cells #[.int .i64 x] 3)).heap.size := by simp
              have hoB : (wd.alloc (.cells #[.int .i64 x] 3)).heap[wd.heap.size]? = some (.cells #[.int .i64 x] 3 (0, 0)) := heap_hit0 rfl
              generalize wd.alloc (.cells #[.int .i64 x] 3) = xB at *
              refine wpAnyH_ready (rs := [0]) (by kernel_rfl) (by simp) ?_
              refine AllReadyH.cons rfl (fun K hK => ?_) AllReadyH.nil
              go_simp
              refine hK.out _ _ (hbB.alloc hbB.size _) (fun hHA => ?_)
              clear hK K
              try simp only [Act.put, List.setIfInBounds_toArray, List.set_cons_zero, List.set_cons_succ]
              have hbA : Below wr.heap.size wr (xB.alloc (.cells #[] 3)) := hbB.alloc hbB.size _
              have hzA : xB.heap.size < (xB.alloc (.cells #[] 3)).heap.size := by simp
              have hwA : Own (xB.alloc (.cells #[] 3)) wr.heap.size (.slice (some ⟨xB.heap.size, 0, none⟩) 0 0) [] := own_built0 hbB.size
              have hoB2 := one_alloc hoB (.cells #[] 3)
              generalize xB.alloc (.cells #[] 3) = xA at *
              refine wpAnyH_ready (rs := [4]) (by kernel_rfl) (by simp) ?_
              refine AllReadyH.cons rfl (fun K hK => ?_) AllReadyH.nil
              refine step_appI2 (some 48) rfl rfl (.tmp 44) (.tmp 47) rfl wr.heap.size (.slice (some ⟨xB.heap.size, 0, none⟩) 0 0) (.slice (some ⟨g, 0, none⟩) L.length oc) [] L rfl rfl hwA (HSL.out _ hbA) (by simp <;> omega) hbA.size ?_
              intro v4 w4 ho4x hg4
              have hb4 : Below wr.heap.size wr w4 := hbA.grown hg4 hbA.size (fun g hg => (hwA.lt g hg).1)
              have ho4 : Own w4 wr.heap.size v4 L := ho4x
              refine hK.out _ _ hb4 (fun hH4 => ?_)
              clear hK K
              try simp only [Act.put, List.setIfInBounds_toArray, List.set_cons_zero, List.set_cons_succ]
              have hoD := one_kept hoB2 hg4 (by simp [Value.ownBlock]; omega)
              refine wpAnyH_ready (rs := [7]) (by kernel_rfl) (by simp) ?_
              refine AllReadyH.cons rfl (fun K hK => ?_) AllReadyH.nil
              refine step_appI2 (some 51) rfl rfl (.tmp 48) (.tmp 50) rfl wr.heap.size v4 (.slice (some ⟨wd.heap.size, 0, none⟩) 1 1) L [x] rfl rfl ho4 (one_ints hoD hx1 hx2) (by simp <;> omega) hb4.size ?_
              intro v7 w7 ho7x hg7
              have hb7 : Below wr.heap.size wr w7 := hb4.grown hg7 hb4.size (fun g hg => (ho4.lt g hg).1)
              have ho7 : Own w7 wr.heap.size v7 (L ++ [x]) := ho7x
              refine hK.out _ _ hb7 (fun hH7 => ?_)
              clear hK K
              try simp only [Act.put, List.setIfInBounds_toArray, List.set_cons_zero, List.set_cons_succ]
              refine wpAnyH_ready (rs := [11]) (by kernel_rfl) (by simp) ?_
              refine AllReadyH.cons rfl (fun K hK => ?_) AllReadyH.nil
              refine step_appI2 (some 55) rfl rfl (.tmp 51) (.tmp 54) rfl wr.heap.size v7 (.slice (if oc = L.length then some ⟨g, 0, none⟩ else some ⟨g, L.length, none⟩) 0 (oc - L.length)) (L ++ [x]) ([] : List Int) rfl rfl ho7 (HSR.out _ hb7) (by simp <;> omega) hb7.size ?_
              intro v11 w11 ho11x hg11
              have hb11 : Below wr.heap.size wr w11 := hb7.grown hg11 hb7.size (fun g hg => (ho7.lt g hg).1)
              have ho11 : Own w11 wr.heap.size v11 (L ++ [x] ++ ([] : List Int)) := ho11x
              refine hK.out _ _ hb11 (fun hH11 => ?_)
              clear hK K
              try simp only [Act.put, List.setIfInBounds_toArray, List.set_cons_zero, List.set_cons_succ]
              refine takeC (i := 12) (v := v11) (some 3) rfl rfl (by kernel_rfl) (by kernel_rfl) (by kernel_rfl) (fun _ _ _ h => h) (Or.inl ⟨by rfl, ?_⟩) (by assumption) ?_
              · intro wz hSw; go_simp
              try simp only [Act.put, List.setIfInBounds_toArray, List.set_cons_zero, List.set_cons_succ]
              refine wpAnyH_done (by kernel_rfl) ?_ _
              go_wp2
              go_roundw
              case rel => exact ⟨k + 1, HKL.out, by go_num, own_to (ho11.mono HB.out.size) HLS1.out, HB.out.trans (hb11.mono HB.out.size)⟩
              case measure => have := HKL.out; simp [intOf]; omega
    · have hTK : T.take k = T := List.take_of_length_le (by omega)
      rw [hTK] at hown
      obtain ⟨fa, fc, rfl⟩ := own_shC hown
      have HOF := Lib.hid hown
      clear hown
      go_wp2
      go_ret
      exact ⟨_, rfl, HOF.out, HB.out⟩
end Go.Proofs.YtppglbffmgnooaaGreat
