/- Joined texts: AgVar, AgLeaf, AgEq, AgMap, AgEntry. -/
import Derived.Test.YtppglbffmgnooaaGreatK06
import Derived.Test.YtppglbffmgnooaaGreatA01
import Derived.Laws.BitsAllLaws
import Derived.ChangeKeysEq
import Derived.Laws.StructEq
import Derived.Test.YtppglbffmgnooaaGreatK02
import Derived.WideKeyArr
import Derived.WideKeyPair
import Derived.Maps.OwnSet
/- aig.variable, aig.normal: texts of circ's, said of aig's. -/
namespace Go.Proofs.YtppglbffmgnooaaGreat
open Go.RowKit
set_option linter.unusedVariables false
set_option linter.unusedSimpArgs false

set_option maxRecDepth 100000 in
theorem avar_any (x : Int) (w : World) (h1 : -9223372036854775808 ≤ x) (h2 : x ≤ 9223372036854775807) :
    Calls Tryz.prog 89 #[.int .i64 x] w fun e w' => e = .returned (.int .i64 (varC x)) ∧ w = w' := by
  by_cases hx : x < 0
  · by_cases hm : x = -9223372036854775808
    · subst hm
      have hw0 : wrap64 9223372036854775808 = -9223372036854775808 := by unfold wrap64; rfl
      go_enter Tryz.func89, Tryz.ntmps89
      go_wp2
      go_ret
      exact ⟨ret_int (by simp [varC]), rfl⟩
    · have he : varC x = -x := by unfold varC; rw [if_pos hx, if_neg hm]
      have HE := Lib.hid he
      have hwr : wrap64 (-x) = -x := by unfold wrap64; omega
      have hmx : max x (-x) = -x := by omega
      clear he hm
      go_enter Tryz.func89, Tryz.ntmps89
      go_wp2
      go_ret
      exact ⟨ret_int (by rw [HE.out]), rfl⟩
  · have he : varC x = x := by unfold varC; rw [if_neg hx]
    have HE := Lib.hid he
    have hwr : wrap64 (-x) = -x := by unfold wrap64; omega
    have hmx : max x (-x) = x := by omega
    clear he
    go_enter Tryz.func89, Tryz.ntmps89
    go_wp2
    go_ret
    exact ⟨ret_int (by rw [HE.out]), rfl⟩
set_option maxHeartbeats 400000 in
set_option maxRecDepth 100000 in
theorem anormal_any (v : Value) (l : List Int) (w : World) (H : IsInts w v l) :
    Calls Tryz.prog 76 #[v] w fun e w' => e = .returned (.bool (mayB l)) ∧ w = w' := by
  obtain ⟨a, cap, rfl, _, _, hl, h64, b, off, ha, hc⟩ := H
  go_enter Tryz.func76, Tryz.ntmps76
  go_wp2
  go_loop [3, 9] (fun p i => ∃ (k : Nat) (q : Int), k ≤ l.length ∧ i = .int .i64 k ∧ p = .int .i64 q ∧ 0 ≤ q ∧ q ≤ 65536 ∧ mayB l = mayFrom q (l.drop k)) (fun _ i => l.length - (intOf i).toNat)
  case atStart => exact ⟨0, 0, Nat.zero_le _, rfl, rfl, by omega, by omega, rfl⟩
  case round =>
    obtain ⟨k, q, hk, rfl, rfl, hq1, hq2, hm⟩ := hrel
    by_cases hlt : k < l.length
    · obtain ⟨rfl, hb⟩ := ha (by intro h; simp [h] at hlt)
      have hx := hc k hlt
      have hx1 := (h64.at k hlt).1
      have hx2 := (h64.at k hlt).2
      have hd := mayFrom_drop q l k hlt
      generalize l.getD k 0 = x at *
      have hvc := varOf_C x hx1
      rw [hd] at hm
      have HM := Lib.hid hm
      have HV := Lib.hid (avar_any x w hx1 hx2)
      clear hm hd hc ha
      generalize varC x = y at *
      by_cases hle : y ≤ q
      · have HF : Hid (mayB l = false) := by
          show _ = _
          have : ¬ (q < varOf x) := by rw [hvc]; split <;> omega
          rw [HM.out]; simp [this]
        clear hvc
        go_wp2_with (go_at_call 89; refine HV.out.mono ?_; rintro e w' ⟨rfl, rfl⟩)
        go_ret
        exact ⟨ret_bool HF.out.symm, rfl⟩
      · by_cases hgt : 65536 < y
        · have HF : Hid (mayB l = false) := by
            show _ = _
            have : ¬ (q < varOf x) := by rw [hvc]; split <;> omega
            rw [HM.out]; simp [this]
          clear hvc
          go_wp2_with (go_at_call 89; refine HV.out.mono ?_; rintro e w' ⟨rfl, rfl⟩)
          go_ret
          exact ⟨ret_bool HF.out.symm, rfl⟩
        · have HF : Hid (mayB l = mayFrom y (l.drop (k + 1))) := by
            show _ = _
            have : varOf x = y := by rw [hvc]; split <;> omega
            rw [HM.out, this]
            have h2 : q < y := by omega
            simp [h2]
          clear hvc
          go_wp2_with (go_at_call 89; refine HV.out.mono ?_; rintro e w' ⟨rfl, rfl⟩)
          go_round
          case rel => exact ⟨k + 1, y, by omega, by go_num, rfl, by omega, by omega, HF.out⟩
          case measure => simp [intOf]; omega
    · have HM := Lib.hid hm
      clear hm
      go_wp2
      go_ret
      exact ⟨ret_bool (by rw [HM.out, List.drop_eq_nil_of_le (by omega)]; rfl), rfl⟩
end Go.Proofs.YtppglbffmgnooaaGreat

/- aig: isEdge, opposite, nodes, areInputs, areEdges; slices of pairs. -/
namespace Go.Proofs.YtppglbffmgnooaaGreat
open Go.RowKit
set_option linter.unusedVariables false
set_option linter.unusedSimpArgs false

theorem isEdge_any (e : Int) (n : Nat) (w : World) (h1 : -9223372036854775808 ≤ e) (h2 : e ≤ 9223372036854775807) (hn : n ≤ 17592186044416) :
    Calls Tryz.prog 68 #[.int .i64 e, .int .i64 (n : Int)] w fun r w' => r = .returned (.bool (isE e n)) ∧ Quiet w w' := by
  by_cases h : 0 ≤ e
  · have HE : Hid (isE e n = decide (e / 2 < (n : Int))) := by show _ = _; unfold isE; simp [h]
    go_enter Tryz.func68, Tryz.ntmps68
    go_wp2
    go_ret
    exact ⟨ret_bool HE.out.symm, Quiet.refl _⟩
  · have HE : Hid (isE e n = false) := by show _ = _; unfold isE; simp [h]
    have hd : decide (0 ≤ e) = false := by simpa using h
    go_enter Tryz.func68, Tryz.ntmps68
    go_wp2
    go_ret
    exact ⟨ret_bool HE.out.symm, Quiet.refl _⟩
theorem xor_nat (n : Nat) : n ^^^ 1 = if n % 2 = 0 then n + 1 else n - 1 := by
  have h1 : (n ^^^ 1) / 2 = n / 2 := by rw [Nat.xor_div_two]; simp
  have h2 : (n ^^^ 1) % 2 = 1 ↔ ¬ ((n % 2 = 1) ↔ (1 % 2 = 1)) := Nat.xor_mod_two_eq_one
  split <;> omega
theorem xor_one {e : Int} (h1 : 0 ≤ e) (h2 : e ≤ 4000000) : bits .xor .i64 e 1 = notE e := by
  obtain ⟨n, rfl⟩ := Int.eq_ofNat_of_zero_le h1
  show IntKind.i64.wrap ((BitVec.ofInt 64 (n : Int) ^^^ BitVec.ofInt 64 ((1 : Nat) : Int)).toNat : Int) = _
  rw [BitVec.toNat_xor, ofInt_u64 n (by omega), ofInt_u64 1 (by omega), xor_nat]
  have hw : ∀ m : Nat, m ≤ 8000000 → IntKind.i64.wrap (m : Int) = m := fun m hm => by
    simp [IntKind.wrap, IntKind.bits, IntKind.signed]
    omega
  unfold notE
  by_cases h : n % 2 = 0
  · rw [if_pos h, if_pos (by omega), hw _ (by omega)]; omega
  · rw [if_neg h, if_neg (by omega), hw _ (by omega)]; omega
theorem xor_zero {e : Int} (h1 : 0 ≤ e) (h2 : e ≤ 4000000) : bits .xor .i64 e 0 = e := by
  obtain ⟨n, rfl⟩ := Int.eq_ofNat_of_zero_le h1
  show IntKind.i64.wrap ((BitVec.ofInt 64 (n : Int) ^^^ BitVec.ofInt 64 ((0 : Nat) : Int)).toNat : Int) = _
  rw [BitVec.toNat_xor, ofInt_u64 n (by omega), ofInt_u64 0 (by omega), Nat.xor_zero]
  simp only [IntKind.wrap, IntKind.bits, IntKind.signed]
  simp <;> omega
theorem opposite_any (e : Int) (w : World) (h1 : 0 ≤ e) (h2 : e ≤ 4000000) :
    Calls Tryz.prog 70 #[.int .i64 e] w fun r w' => r = .returned (.int .i64 (notE e)) ∧ w = w' := by
  have HX := Lib.hid (xor_one h1 h2)
  go_enter Tryz.func70, Tryz.ntmps70
  go_wp2
  go_ret
  exact ⟨ret_int HX.out, rfl⟩

/-- All are pairs of the kind int. -/
def InP (A : List Pr) : Prop := ∀ p ∈ A, (-9223372036854775808 ≤ p.1 ∧ p.1 ≤ 9223372036854775807) ∧ -9223372036854775808 ≤ p.2 ∧ p.2 ≤ 9223372036854775807
theorem InP.at {A : List Pr} (h : InP A) {k : Nat} (hk : k < A.length) : (-9223372036854775808 ≤ (A.getD k dPr).1 ∧ (A.getD k dPr).1 ≤ 9223372036854775807) ∧ -9223372036854775808 ≤ (A.getD k dPr).2 ∧ (A.getD k dPr).2 ≤ 9223372036854775807 := h _ (by simp [List.getD, hk])
/-- The value is a slice of arrays of two integers. -/
def IsPairs (w : World) (v : Value) (A : List Pr) : Prop :=
  ∃ a cap, v = .slice a A.length cap ∧ (A.length ≤ cap ∧ (a = none → cap = 0)) ∧ cap ≤ 9223372036854775807 ∧ A.length ≤ 17592186044416 ∧ InP A ∧
    ∃ b off, (A ≠ [] → a = some ⟨b, off, none⟩ ∧ b < w.heap.size) ∧ ∀ j, j < A.length → w.cell? ⟨b, off + j * 2, none⟩ = some (.int .i64 (A.getD j dPr).1) ∧ w.cell? ⟨b, off + j * 2 + 1, none⟩ = some (.int .i64 (A.getD j dPr).2)
theorem IsPairs.below {w w' : World} {B : Nat} {v : Value} {A : List Pr} (h : IsPairs w v A) (hb : Below B w w') (hB : w.heap.size ≤ B) : IsPairs w' v A := by
  obtain ⟨a, cap, h1, h2, h3, h4, h5, b, off, ha, hc⟩ := h
  refine ⟨a, cap, h1, h2, h3, h4, h5, b, off, fun hl => ⟨(ha hl).1, Nat.lt_of_lt_of_le (ha hl).2 hb.size⟩, fun j hj => ?_⟩
  have hlt : b < w.heap.size := (ha (by intro h; simp [h] at hj)).2
  rw [hb.cell (p := ⟨b, off + j * 2, none⟩) (Nat.lt_of_lt_of_le hlt hB), hb.cell (p := ⟨b, off + j * 2 + 1, none⟩) (Nat.lt_of_lt_of_le hlt hB)]
  exact hc j hj
theorem IsPairs.quiet {w w' : World} {v : Value} {A : List Pr} (h : IsPairs w v A) (hq : Quiet w w') : IsPairs w' v A := h.below (hq.below _) (Nat.le_refl _)
theorem IsPairs.nil (w : World) : IsPairs w (.slice none 0 0) [] := ⟨none, 0, rfl, ⟨Nat.le_refl _, fun _ => rfl⟩, by omega, by simp, (fun p h => (by cases h)), 0, 0, (fun h => absurd rfl h), (fun j hj => absurd hj (Nat.not_lt_zero _))⟩
theorem IsPairs.shape {w : World} {v : Value} {A : List Pr} (h : IsPairs w v A) : ∃ a cap, v = .slice a A.length cap ∧ A.length ≤ 17592186044416 := by
  obtain ⟨a, cap, e, _, _, h4, _⟩ := h; exact ⟨a, cap, e, h4⟩
theorem IsPairs.inP {w : World} {v : Value} {A : List Pr} (h : IsPairs w v A) : InP A := by obtain ⟨_, _, _, _, _, _, h5, _⟩ := h; exact h5
theorem IsPairs.at {w : World} {a : Option Addr} {n cap : Nat} {A : List Pr} (h : IsPairs w (.slice a n cap) A) {k : Nat} (hk : k < A.length) :
    ∃ b off, a = some ⟨b, off, none⟩ ∧ b < w.heap.size ∧ w.cell? ⟨b, off + k * 2, none⟩ = some (.int .i64 (A.getD k dPr).1) ∧ w.cell? ⟨b, off + k * 2 + 1, none⟩ = some (.int .i64 (A.getD k dPr).2) := by
  obtain ⟨a', cap', e, _, _, _, _, b, off, ha, hc⟩ := h
  injection e with e1 e2 e3
  subst e1
  obtain ⟨h1, h2⟩ := ha (by intro h; simp [h] at hk)
  exact ⟨b, off, h1, h2, hc k hk⟩
theorem take_pr {A : List Pr} {k : Nat} (h : k < A.length) : A.take (k + 1) = A.take k ++ [A.getD k dPr] := by rw [List.take_succ_eq_append_getElem h]; simp [List.getD, h]
theorem IsInts.bd {w : World} {v : Value} {l : List Int} (h : IsInts w v l) : l.length ≤ 17592186044416 := by obtain ⟨_, _, _, _, _, g, _⟩ := h; exact g

theorem nodes_any (vi va : Value) (I : List Int) (A : List Pr) (w : World) (HI : IsInts w vi I) (HA : IsPairs w va A) (h1 : I.length ≤ 4000000) (h2 : A.length ≤ 4000000) :
    Calls Tryz.prog 66 #[.agg #[vi, va]] w fun r w' => r = .returned (.int .i64 ((1 + I.length + A.length : Nat) : Int)) ∧ Below w.heap.size w w' := by
  obtain ⟨ia, ic, rfl⟩ := HI.shape
  obtain ⟨aa, ac, rfl, _⟩ := HA.shape
  have hb := (Below.refl w.heap.size w).alloc (Nat.le_refl _) (.cells #[.slice ia I.length ic, .slice aa A.length ac] 25)
  have HB := Lib.hid hb
  clear HI HA hb
  go_enter Tryz.func66, Tryz.ntmps66
  go_wp2
  go_ret
  exact ⟨ret_int (by omega), HB.out⟩
theorem ainput1_any (x : Int) (w : World) (h1 : -9223372036854775808 ≤ x) (h2 : x ≤ 9223372036854775807) :
    Calls Tryz.prog 147 #[.int .i64 x] w fun e w' => e = .returned (.bool (decide (x < 0))) ∧ Quiet w w' := by
  go_enter Tryz.func147, Tryz.ntmps147
  go_wp2
  go_ret
  exact ⟨rfl, Quiet.refl _⟩
set_option maxRecDepth 100000 in
theorem areInputs_any (v : Value) (l : List Int) (w : World) (H : IsInts w v l) :
    Calls Tryz.prog 67 #[v] w fun e w' => e = .returned (.bool (insB l)) ∧ Quiet w w' := by
  have h64 := H.in64
  have HC := Lib.hid (containsi_any (fun x => decide (x < 0)) 147 #[] v l w (fun _ _ => rfl) (fun X x hq hx => ainput1_any x X (h64 x hx).1 (h64 x hx).2) H)
  have HN := Lib.hid (anormal_any v l w H)
  obtain ⟨a, cap, rfl⟩ := H.shape
  clear h64 H
  by_cases hm : mayB l = true
  · have HE : Hid (insB l = !l.any (fun v => decide (v < 0))) := by show _ = _; unfold insB; rw [hm]; rfl
    rw [hm] at HN
    clear hm
    generalize l.any (fun v => decide (v < 0)) = t at *
    go_enter Tryz.func67, Tryz.ntmps67
    go_wp2_with (first
      | (go_at_call 146; refine HC.out.mono ?_; rintro e w1 ⟨rfl, hq1⟩)
      | (go_at_call 76; refine HN.out.mono ?_; rintro e w1 ⟨rfl, rfl⟩))
    go_ret
    exact ⟨ret_bool HE.out.symm, hq1⟩
  · have hm : mayB l = false := by simpa using hm
    have HE : Hid (insB l = false) := by show _ = _; unfold insB; rw [hm]; rfl
    rw [hm] at HN
    clear hm
    go_enter Tryz.func67, Tryz.ntmps67
    go_wp2_with (go_at_call 76; refine HN.out.mono ?_; rintro e w1 ⟨rfl, rfl⟩)
    go_ret
    exact ⟨ret_bool HE.out.symm, Quiet.refl _⟩
theorem areEdges1_any (x : Int) (n b : Nat) (w : World) (hc : w.cell? ⟨b, 0, none⟩ = some (.int .i64 (n : Int))) (hn : n ≤ 17592186044416) (h1 : -9223372036854775808 ≤ x) (h2 : x ≤ 9223372036854775807) :
    Calls Tryz.prog 179 #[.int .i64 x, .pointer (some ⟨b, 0, none⟩)] w fun e w' => e = .returned (.bool (!isE x n)) ∧ Quiet w w' := by
  have HC := Lib.hid (isEdge_any x n w h1 h2 hn)
  generalize isE x n = t at *
  go_enter Tryz.func179, Tryz.ntmps179
  go_wp2_with (go_at_call 68; refine HC.out.mono ?_; rintro e w1 ⟨rfl, hq1⟩)
  go_ret
  exact ⟨rfl, hq1⟩
set_option maxRecDepth 100000 in
theorem areEdges_any (v : Value) (l : List Int) (n : Nat) (w : World) (H : IsInts w v l) (hn : n ≤ 17592186044416) :
    Calls Tryz.prog 144 #[v, .int .i64 (n : Int)] w fun e w' => e = .returned (.bool (edgesB l n)) ∧ Below w.heap.size w w' := by
  obtain ⟨W, hW⟩ : ∃ W, w.alloc (.cells #[.int .i64 (n : Int)] 3) = W := ⟨_, rfl⟩
  have hb0 : Below w.heap.size w W := by rw [← hW]; exact (Below.refl w.heap.size w).alloc (Nat.le_refl _) _
  have c0 : W.cell? ⟨w.heap.size, 0, none⟩ = some (.int .i64 (n : Int)) := by rw [← hW]; exact cell_fresh rfl
  have H1 := H.below hb0 (Nat.le_refl _)
  have h64 := H.in64
  have ht : TellsB Tryz.prog 179 #[.pointer (some ⟨w.heap.size, 0, none⟩)] (fun x => !isE x n) l W := fun X x hq hx =>
    areEdges1_any x n w.heap.size X ((hq.cell _).trans c0) hn (h64 x hx).1 (h64 x hx).2
  have HC := Lib.hid (containsi_any (fun x => !isE x n) 179 #[.pointer (some ⟨w.heap.size, 0, none⟩)] v l W (fun _ _ => rfl) ht H1)
  have HB0 := Lib.hid hb0
  have HE : Hid (edgesB l n = !l.any (fun x => !isE x n)) := rfl
  generalize l.any (fun x => !isE x n) = t at *
  clear hb0 H1 h64 ht c0
  obtain ⟨a, cap, rfl⟩ := H.shape
  clear H
  go_enter Tryz.func144, Tryz.ntmps144
  go_wp2_with (go_at_call 146; refine HC.out.mono ?_; rintro e w1 ⟨rfl, hq1⟩)
  go_ret
  exact ⟨ret_bool HE.out.symm, HB0.out.trans (hq1.below _)⟩
end Go.Proofs.YtppglbffmgnooaaGreat

/- '==' of arrays of two integers. -/
namespace Go.Proofs.YtppglbffmgnooaaGreat
open Go.RowKit
set_option linter.unusedVariables false
set_option linter.unusedSimpArgs false

theorem pr_type : Tryz.prog.underlying 115 = some (.array 2 3) := by kernel_rfl
theorem pr_plain : Tryz.prog.plainKey 3 = true := by kernel_rfl
theorem pr_info : ∃ i, Tryz.prog.info? 3 = some i ∧ i.size = 1 := by
  cases h : Tryz.prog.info? 3 with
  | none => exact absurd (show (Tryz.prog.info? 3).isSome = true by kernel_rfl) (by rw [h]; decide)
  | some i => exact ⟨i, rfl, by have : (Tryz.prog.info? 3).map (·.size) = some 1 := by kernel_rfl
                                rw [h] at this; simpa using this⟩
theorem pr_cells : Tryz.prog.cellsOf 3 = 1 := by kernel_rfl
theorem equal_pr (W : World) (a b c d : Int) : (Op.equalIn 10000 115 (.agg #[.int .i64 a, .int .i64 b]) (.agg #[.int .i64 c, .int .i64 d])).run Tryz.prog W = .ok (a == c && b == d) W := by
  obtain ⟨i, hi, _⟩ := pr_info
  rw [show (10000 : Nat) = 9999 + 1 from rfl, run_equalIn_array W 9999 _ _ pr_type hi]
  have p0 : ∀ (x y : Int), (part 3 #[.int .i64 x, .int .i64 y] (0 * 1)).run Tryz.prog W = .ok (.int .i64 x) W := fun x y => run_part_plain W pr_plain rfl
  have p1 : ∀ (x y : Int), (part 3 #[.int .i64 x, .int .i64 y] (1 * 1)).run Tryz.prog W = .ok (.int .i64 y) W := fun x y => run_part_plain W pr_plain rfl
  have hr : List.range 2 = [0, 1] := by decide
  rw [hr, pr_cells]
  simp only [Op.eqItems, Sem.run_bind, p0, p1, Result.andThen_ok, run_equalIn_int W 9998 3 .i64 .i64 _ _ Tryz.underlying3]
  cases h1 : a == c <;> cases h2 : b == d <;> simp [Result.andThen_ok, p1, run_equalIn_int W 9998 3 .i64 .i64 _ _ Tryz.underlying3] <;> simpa using h2
theorem guard_pr (W : World) (op : BinOp) (x y : Operand) (xs ys : Array Value) : (eqGuard op 115 x y (.agg xs) (.agg ys)).run Tryz.prog W = .ok () W := run_eqGuard_agg W op _ x y xs ys (by kernel_rfl)
end Go.Proofs.YtppglbffmgnooaaGreat

/- Maps whose keys are arrays of two integers: to ints, and to bools. -/
namespace Go.Proofs.YtppglbffmgnooaaGreat
open Go.RowKit Go.Maps
set_option linter.unusedVariables false
set_option linter.unusedSimpArgs false

theorem prA : Go.WideMaps.ArrKey Tryz.prog 115 3 2 := ⟨pr_type, pr_plain, pr_cells, by kernel_rfl⟩
theorem prK : Keyed Tryz.prog 115 := Keyed.of_law prA.law
abbrev prV (p : Pr) : Value := .agg #[.int .i64 p.1, .int .i64 p.2]
def kl (p : Pr) : Lit := .string (keyBytes [.int .i64 p.1, .int .i64 p.2])
/-- Both numbers are ints. -/
def In1 (p : Pr) : Prop := (-9223372036854775808 ≤ p.1 ∧ p.1 ≤ 9223372036854775807) ∧ -9223372036854775808 ≤ p.2 ∧ p.2 ≤ 9223372036854775807
theorem keyOf_pr {p : Pr} (h : In1 p) : keyOf Tryz.prog 115 (prV p) = some (kl p) :=
  Go.WideMaps.keyOf_pair prA Tryz.underlying3 ⟨_, show Tryz.prog.types.size = (Tryz.prog.types.size - 1) + 1 by kernel_rfl⟩ (i64w h.1.1 h.1.2) (i64w h.2.1 h.2.2)
theorem kl_inj {p q : Pr} (hp : In1 p) (hq : In1 q) (e : kl p = kl q) : p = q := by
  have h := prK.inj (keyOf_pr hp) (e ▸ keyOf_pr hq)
  obtain ⟨p1, p2⟩ := p
  obtain ⟨q1, q2⟩ := q
  simpa using h
theorem kl_key (p : Pr) : WideAt.IsKeyLit (kl p) := trivial
theorem kl_ne {p q : Pr} (hp : In1 p) (hq : In1 q) (h : p ≠ q) : kl p ≠ kl q := fun e => h (kl_inj hp hq e)

/-- Block b is a map from pairs to ints, of at most n entries, that says f. -/
def MapP (w : World) (b n : Nat) (f : Pr → Option Int) : Prop :=
  ∃ D : DataW Unit, w.ownsMap Tryz.prog 115 (plainElem Tryz.prog 3) b n D ∧ IsMap D ∧ ∀ p, In1 p → Maps.has D (kl p) = (f p).isSome ∧ D.atKey (kl p) (.lit (.int .i64 0)) = .lit (.int .i64 ((f p).getD 0))
theorem MapP.lt {w : World} {b n : Nat} {f : Pr → Option Int} (h : MapP w b n f) : b < w.heap.size := by obtain ⟨D, h1, _⟩ := h; exact h1.lt
theorem MapP.kept {w w' : World} {b n : Nat} {f : Pr → Option Int} {S : Nat → Prop} (h : MapP w b n f) (k : Kept S w w') (hb : ¬ S b) : MapP w' b n f := by
  obtain ⟨D, h1, h2⟩ := h
  exact ⟨D, ownsMap_kept h1 k hb, h2⟩
theorem MapP.below {w w' : World} {b n B : Nat} {f : Pr → Option Int} (h : MapP w b n f) (hb : Below B w w') (hB : w.heap.size ≤ B) : MapP w' b n f :=
  h.kept (S := fun _ => False) ⟨hb.os, hb.tape, hb.output, hb.size, fun k hk _ => hb.block k (by omega)⟩ (fun h => h)
theorem MapP.mono {w : World} {b n n' : Nat} {f : Pr → Option Int} (h : MapP w b n f) (hn : n ≤ n') : MapP w b n' f := by
  obtain ⟨D, h1, h2⟩ := h
  exact ⟨D, h1.mono hn, h2⟩
theorem MapP.congr {w : World} {b n : Nat} {f g : Pr → Option Int} (h : MapP w b n f) (e : ∀ p, In1 p → f p = g p) : MapP w b n g := by
  obtain ⟨D, h1, h2, h3⟩ := h
  exact ⟨D, h1, h2, fun p hp => by rw [← e p hp]; exact h3 p hp⟩
theorem MapP.made (w : World) : MapP (w.alloc (.map #[] 0)) w.heap.size 0 (fun _ => none) :=
  ⟨.map [], World.ownsMap_made w Tryz.prog 115 _, isMap_empty, fun p _ => ⟨rfl, rfl⟩⟩
set_option maxRecDepth 100000 in
theorem MapP.look {w : World} {b n : Nat} {f : Pr → Option Int} (h : MapP w b n f) (hz : (zeroValue 3).run Tryz.prog w = .ok (.int .i64 0) w) {p : Pr} (hp : In1 p) :
    (Instr.lookup 109 (.map (some b)) (prV p) true).run Tryz.prog w = .ok (.tuple #[.int .i64 ((f p).getD 0), .bool (f p).isSome]) w := by
  obtain ⟨D, h1, _, h3⟩ := h
  obtain ⟨v, ps, hrun, hv⟩ := h1.look_ok prK Tryz.underlying109 hz (plainElem_int Tryz.underlying3 (i64w (by omega) (by omega))) (keyOf_pr hp)
  obtain ⟨c, rfl, hc, _⟩ := plainElem_int_inv Tryz.underlying3 hv
  rw [(h3 p hp).1] at hrun
  have h4 := congrArg Prod.fst hc
  simp only at h4
  rw [(h3 p hp).2] at h4
  injection h4 with h5
  injection h5 with _ h6
  rw [← h6] at hrun
  exact hrun
theorem MapP.put {w : World} {b n : Nat} {f : Pr → Option Int} (h : MapP w b n f) (hn : n < maxLen) {p : Pr} (hp : In1 p) {v : Int} (hv : (Lit.int .i64 v).wf = true) :
    ∃ w', (Instr.mapUpdate 109 (.map (some b)) (prV p) (.int .i64 v)).run Tryz.prog w = .ok () w' ∧ MapP w' b (n + 1) (fun q => if q = p then some v else f q) ∧ Kept (fun i => i = b) w w' := by
  obtain ⟨D, h1, hD, h3⟩ := h
  obtain ⟨w', hrun, h4, h5⟩ := h1.update prK Tryz.underlying109 hn (keyOf_pr hp) (plainElem_int Tryz.underlying3 hv)
  refine ⟨w', hrun, ⟨_, h4, hD.put _ _, fun q hq => ?_⟩, (Kept.of_grown h5).mono fun i _ e => (Option.some.inj e).symm⟩
  by_cases e : q = p
  · subst e
    show _ = (if q = q then some v else f q).isSome ∧ _ = DataW.lit (Lit.int .i64 ((if q = q then some v else f q).getD 0))
    rw [if_pos rfl, has_put_same hD (kl_key q), atKey_put_same hD (kl_key q)]
    exact ⟨rfl, rfl⟩
  · show _ = (if q = p then some v else f q).isSome ∧ _ = DataW.lit (Lit.int .i64 ((if q = p then some v else f q).getD 0))
    rw [if_neg e, has_put_other (kl_ne hq hp e), atKey_put_other (kl_ne hq hp e)]
    exact h3 q hq
theorem MapP.del {w : World} {b n : Nat} {f : Pr → Option Int} (h : MapP w b n f) {p : Pr} (hp : In1 p) (ty : TypeId) :
    ∃ w', (Builtin.delete_ #[109, 115] ty #[.map (some b), prV p]).run Tryz.prog w = .ok (.tuple #[]) w' ∧ MapP w' b n (fun q => if q = p then none else f q) ∧ Kept (fun i => i = b) w w' := by
  obtain ⟨D, h1, hD, h3⟩ := h
  obtain ⟨w', hrun, h4, h5⟩ := h1.drop prK Tryz.underlying109 (keyOf_pr hp) ty
  refine ⟨w', hrun, ⟨_, h4, hD.del _, fun q hq => ?_⟩, ?_⟩
  · by_cases e : q = p
    · subst e
      show _ = (if q = q then none else f q).isSome ∧ _ = DataW.lit (Lit.int .i64 ((if q = q then none else f q).getD 0))
      rw [if_pos rfl, has_del_same, atKey_del_same]
      exact ⟨rfl, rfl⟩
    · show _ = (if q = p then none else f q).isSome ∧ _ = DataW.lit (Lit.int .i64 ((if q = p then none else f q).getD 0))
      rw [if_neg e, has_del_other (kl_ne hq hp e), atKey_del_other (kl_ne hq hp e)]
      exact h3 q hq
  · obtain ⟨es, clock, es', clock', hb, rfl⟩ := h5
    exact ⟨rfl, rfl, rfl, by simp [Go.ChangeMaps.setBlock], fun k hk hS => Go.ChangeMaps.heap_setBlock_other hb _ (fun e => hS (by rw [e]))⟩

/-- Block b is a map from pairs to bools, of at most n entries, that says f. -/
def MapQ (w : World) (b n : Nat) (f : Pr → Bool) : Prop :=
  ∃ D : DataW Unit, w.ownsMap Tryz.prog 115 (plainElem Tryz.prog 4) b n D ∧ IsMap D ∧ ∀ p, In1 p → D.atKey (kl p) (.lit (.bool false)) = .lit (.bool (f p))
theorem MapQ.lt {w : World} {b n : Nat} {f : Pr → Bool} (h : MapQ w b n f) : b < w.heap.size := by obtain ⟨D, h1, _⟩ := h; exact h1.lt
theorem MapQ.kept {w w' : World} {b n : Nat} {f : Pr → Bool} {S : Nat → Prop} (h : MapQ w b n f) (k : Kept S w w') (hb : ¬ S b) : MapQ w' b n f := by
  obtain ⟨D, h1, h2⟩ := h
  exact ⟨D, ownsMap_kept h1 k hb, h2⟩
theorem MapQ.below {w w' : World} {b n B : Nat} {f : Pr → Bool} (h : MapQ w b n f) (hb : Below B w w') (hB : w.heap.size ≤ B) : MapQ w' b n f :=
  h.kept (S := fun _ => False) ⟨hb.os, hb.tape, hb.output, hb.size, fun k hk _ => hb.block k (by omega)⟩ (fun h => h)
theorem MapQ.congr {w : World} {b n : Nat} {f g : Pr → Bool} (h : MapQ w b n f) (e : ∀ p, In1 p → f p = g p) : MapQ w b n g := by
  obtain ⟨D, h1, h2, h3⟩ := h
  exact ⟨D, h1, h2, fun p hp => by rw [← e p hp]; exact h3 p hp⟩
theorem MapQ.made (w : World) : MapQ (w.alloc (.map #[] 0)) w.heap.size 0 (fun _ => false) :=
  ⟨.map [], World.ownsMap_made w Tryz.prog 115 _, isMap_empty, fun p _ => rfl⟩
set_option maxRecDepth 100000 in
theorem MapQ.look {w : World} {b n : Nat} {f : Pr → Bool} (h : MapQ w b n f) (hz : (zeroValue 4).run Tryz.prog w = .ok (.bool false) w) {p : Pr} (hp : In1 p) :
    (Instr.lookup 124 (.map (some b)) (prV p) false).run Tryz.prog w = .ok (.bool (f p)) w := by
  obtain ⟨D, h1, _, h3⟩ := h
  obtain ⟨v, ps, hrun, hv⟩ := h1.lookup prK Tryz.underlying124 hz (plainElem_bool Tryz.underlying4 false) (keyOf_pr hp)
  obtain ⟨x, rfl, hx⟩ := plainElem_bool_inv Tryz.underlying4 hv
  have h4 := congrArg Prod.fst hx
  simp only at h4
  rw [h3 p hp] at h4
  injection h4 with h5
  injection h5 with h6
  rw [← h6] at hrun
  exact hrun
theorem MapQ.put {w : World} {b n : Nat} {f : Pr → Bool} (h : MapQ w b n f) (hn : n < maxLen) {p : Pr} (hp : In1 p) (v : Bool) :
    ∃ w', (Instr.mapUpdate 124 (.map (some b)) (prV p) (.bool v)).run Tryz.prog w = .ok () w' ∧ MapQ w' b (n + 1) (fun q => if q = p then v else f q) ∧ Kept (fun i => i = b) w w' := by
  obtain ⟨D, h1, hD, h3⟩ := h
  obtain ⟨w', hrun, h4, h5⟩ := h1.update prK Tryz.underlying124 hn (keyOf_pr hp) (plainElem_bool Tryz.underlying4 v)
  refine ⟨w', hrun, ⟨_, h4, hD.put _ _, fun q hq => ?_⟩, (Kept.of_grown h5).mono fun i _ e => (Option.some.inj e).symm⟩
  by_cases e : q = p
  · subst e
    show _ = DataW.lit (Lit.bool (if q = q then v else f q))
    rw [if_pos rfl, atKey_put_same hD (kl_key q)]
  · show _ = DataW.lit (Lit.bool (if q = p then v else f q))
    rw [if_neg e, atKey_put_other (kl_ne hq hp e)]
    exact h3 q hq
end Go.Proofs.YtppglbffmgnooaaGreat

/- 'a, m[k] = x, v': the entry is made first, and gets its value later. -/
namespace Go.Proofs.YtppglbffmgnooaaGreat
open Go.RowKit Go.Maps
open Go.WideElems (Fit)
set_option linter.unusedVariables false
set_option linter.unusedSimpArgs false

/-- An entry for p, which the map does not have, has been made in block b. -/
def MapE (w : World) (b n : Nat) (f : Pr → Option Int) (p : Pr) (s : Nat) : Prop :=
  ∃ es : Array MapEntry, w.heap[b]? = some (.map (es.push { key := prV p, val := .int .i64 0, born := s }) (s + 1)) ∧ (∀ x ∈ es.toList, x.key ≠ prV p) ∧ (∀ x ∈ es.toList, x.born < s) ∧
    (∀ x ∈ es.toList, ∃ l, keyOf Tryz.prog 115 x.key = some l) ∧ ∀ W : World, W.heap[b]? = some (.map es s) → MapP W b n f
theorem MapE.kept {w w' : World} {b n s : Nat} {f : Pr → Option Int} {p : Pr} {S : Nat → Prop} (h : MapE w b n f p s) (k : Kept S w w') (hb : ¬ S b) : MapE w' b n f p s := by
  obtain ⟨es, h1, h2⟩ := h
  exact ⟨es, (k.block b (Array.getElem?_eq_some_iff.1 h1).1 hb).trans h1, h2⟩
theorem MapP.entry {w : World} {b n : Nat} {f : Pr → Option Int} (h : MapP w b n f) (hz : (zeroValue 3).run Tryz.prog w = .ok (.int .i64 0) w) {p : Pr} (hp : In1 p) (hf : f p = none) :
    ∃ (w' : World) (s : Nat), (Instr.mapEntry 109 (.map (some b)) (prV p)).run Tryz.prog w = .ok (.tuple #[.int .i64 0, goInt (s : Int)]) w' ∧ MapE w' b n f p s ∧ Kept (fun i => i = b) w w' := by
  have hl := h.look hz hp
  obtain ⟨D, ⟨es, clock, hb, F, hs, rfl⟩, hD, h3⟩ := h
  have hno : ∀ x ∈ es.toList, x.key ≠ prV p := by
    rcases Maps.fit_look true prK Tryz.underlying109 hz hb F (keyOf_pr hp) with ⟨_, h2, _⟩ | ⟨e0, y, _, _, hrun, _⟩
    · exact h2
    · rw [hl, hf] at hrun
      simp at hrun
  have hfind : (Instr.findKey 115 (prV p) es.toList).run Tryz.prog w = .ok none w := by
    rcases prK.find w (keyOf_pr hp) es.toList F.keys with ⟨h1, _⟩ | ⟨j, e, _, h2, h4⟩
    · exact h1
    · exact absurd h4 (hno e (List.mem_of_getElem? h2))
  have hlt : b < w.heap.size := (Array.getElem?_eq_some_iff.1 hb).1
  refine ⟨{ w with heap := w.heap.setIfInBounds b (.map (es.push { key := prV p, val := .int .i64 0, born := clock }) (clock + 1)) }, clock, ?_, ⟨es, by simp [hlt], hno, F.stamped.1, F.keys, fun W hW => ⟨_, ⟨es, clock, hW, F, hs, rfl⟩, hD, h3⟩⟩, ?_⟩
  · simp only [Instr.mapEntry, Sem.run_bind, run_underlying Tryz.underlying109, Go.MapKept.run_getObj_map hb, prK.check w false (keyOf_pr hp), hfind, hz, Go.MapKept.run_setObj_map _ hb, Result.andThen, Sem.run_pure]
  · exact ⟨rfl, rfl, rfl, by simp, fun k hk hS => by simp [show b ≠ k from fun e => hS e.symm]⟩
set_option maxRecDepth 100000 in
theorem MapE.store {w : World} {b n s : Nat} {f : Pr → Option Int} {p : Pr} (h : MapE w b n f p s) (hn : n < maxLen) (hp : In1 p) {v : Int} (hv : (Lit.int .i64 v).wf = true) :
    ∃ w', (Instr.entryStore 109 (.map (some b)) (goInt s) (.int .i64 v)).run Tryz.prog w = .ok () w' ∧ MapP w' b (n + 1) (fun q => if q = p then some v else f q) ∧ Kept (fun i => i = b) w w' := by
  obtain ⟨es, hb, hno, hborn, hkeys, hM⟩ := h
  have hlt : b < w.heap.size := (Array.getElem?_eq_some_iff.1 hb).1
  obtain ⟨W0, hW0⟩ : ∃ W0, W0 = ({ w with heap := w.heap.setIfInBounds b (.map es s) } : World) := ⟨_, rfl⟩
  have hb0 : W0.heap[b]? = some (.map es s) := by rw [hW0]; simp [hlt]
  obtain ⟨w', hrun, hmp, hkk⟩ := (hM W0 hb0).put hn hp hv
  have hfind : (Instr.findKey 115 (prV p) es.toList).run Tryz.prog W0 = .ok none W0 := by
    rcases prK.find W0 (keyOf_pr hp) es.toList hkeys with ⟨h1, _⟩ | ⟨j, e, _, h2, h4⟩
    · exact h1
    · exact absurd h4 (hno e (List.mem_of_getElem? h2))
  simp only [Instr.mapUpdate, Sem.run_bind, run_underlying Tryz.underlying109, Go.MapKept.run_getObj_map hb0, prK.check W0 false (keyOf_pr hp), hfind, Go.MapKept.run_setObj_map _ hb0, Result.andThen] at hrun
  have hw' : w' = ({ w with heap := w.heap.setIfInBounds b (.map (es.push { key := prV p, val := .int .i64 v, born := s }) (s + 1)) } : World) := by
    injection hrun with _ e
    rw [← e, hW0]
    simp
  have hidx : (es.push { key := prV p, val := .int .i64 0, born := s : MapEntry }).findIdx? (fun e => (e.born : Int) == (s : Int)) = some es.size := by
    rw [Array.findIdx?_push]
    have : es.findIdx? (fun e => (e.born : Int) == (s : Int)) = none := by
      rw [Array.findIdx?_eq_none_iff]
      intro x hx
      have := hborn x (by simpa using hx)
      simp
      omega
    rw [this]
    simp
  have hmod : (es.push { key := prV p, val := .int .i64 0, born := s : MapEntry }).modify es.size (fun e => { e with val := .int .i64 v }) = es.push { key := prV p, val := .int .i64 v, born := s } := by
    apply Array.ext_getElem?
    intro i
    rw [Array.getElem?_modify, Array.getElem?_push, Array.getElem?_push]
    by_cases e : i = es.size
    · subst e; simp
    · simp [e, Ne.symm e]
  refine ⟨w', ?_, hmp, ?_⟩
  · simp only [Instr.entryStore, Sem.run_bind, Go.MapKept.run_getObj_map hb, Result.andThen]
    have ha : (asInt (goInt (s : Int))).run Tryz.prog w = .ok (s : Int) w := rfl
    rw [ha]
    simp only
    rw [hidx]
    simp only [Go.MapKept.run_setObj_map _ hb]
    rw [hmod, hw']
  · rw [hw']
    exact ⟨rfl, rfl, rfl, by simp, fun k hk hS => by simp [show b ≠ k from fun e => hS e.symm]⟩
end Go.Proofs.YtppglbffmgnooaaGreat
