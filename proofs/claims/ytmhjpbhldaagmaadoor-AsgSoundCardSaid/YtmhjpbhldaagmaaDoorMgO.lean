/- Joined texts: CloseP, Close, RClose. -/
import Derived.Test.YtmhjpbhldaagmaaDoorUnitsW
import Derived.Test.YtmhjpbhldaagmaaDoorUnitsU
import Derived.Test.YtmhjpbhldaagmaaDoorNorm
import Derived.Test.YtmhjpbhldaagmaaDoorMgP
import Derived.Test.YtmhjpbhldaagmaaDoorMgN
/- The assignment behind unit propagation, reckoned. -/
namespace Go.Proofs.YtmhjpbhldaagmaaDoor
open Go.RowKit
set_option linter.unusedVariables false
set_option linter.unusedSectionVars false

theorem run_open {f : List (List Int)} {H : List Int} {l : List (Int × Nat)} {c : Int} (h : Run f H l c) (hf : ∀ r ∈ f, mayB r = true) :
    ∀ k, k < l.length → litB (l.getD k (0, 0)).1 = true ∧ ((l.getD k (0, 0)).1 ∉ H ∧ -(l.getD k (0, 0)).1 ∉ H) ∧ (l.getD k (0, 0)).1 ∉ (l.map (·.1)).take k ∧ -(l.getD k (0, 0)).1 ∉ (l.map (·.1)).take k := by
  induction h with
  | done _ => intro k hk; exact absurd hk (Nat.not_lt_zero _)
  | conf _ _ => intro k hk; exact absurd hk (Nat.not_lt_zero _)
  | @step H i x l c h1 h2 _ ih =>
    intro k hk
    have hx : x ∈ openL H (f.getD i []) := by rw [h2]; simp
    obtain ⟨hx1, hx2, hx3⟩ := mem_openL.1 hx
    match k, hk with
    | 0, _ =>
      refine ⟨mayB_mem (hf _ (rows_getD_mem h1.1)) x hx1, ⟨hx2, hx3⟩, ?_, ?_⟩ <;> simp
    | k + 1, hk =>
      obtain ⟨g1, ⟨g2, g3⟩, g4, g5⟩ := ih k (by simpa using hk)
      simp only [List.getD_cons_succ, List.map_cons, List.take_succ_cons]
      simp only [List.mem_cons, not_or] at g2 g3 ⊢
      exact ⟨g1, ⟨g2.2, g3.2⟩, ⟨g2.1, g4⟩, ⟨g3.1, g5⟩⟩
def closeK (a : List Int) (l : List (Int × Nat)) (k : Nat) : List Int := ((l.map (·.1)).take k).foldl insL a
theorem closeK_mem (a : List Int) (l : List (Int × Nat)) (k : Nat) (x : Int) : x ∈ closeK a l k ↔ x ∈ a ∨ x ∈ (l.map (·.1)).take k := foldl_insL_mem _ _ _
theorem closeK_succ {a : List Int} {l : List (Int × Nat)} {k : Nat} (h : k < l.length) : closeK a l (k + 1) = insL (closeK a l k) (l.getD k (0, 0)).1 := by
  unfold closeK
  rw [List.take_succ_eq_append_getElem (by simpa using h), List.foldl_append]
  simp [List.getD, h]
theorem closeK_len (a : List Int) (l : List (Int × Nat)) (k : Nat) : (closeK a l k).length ≤ a.length + k := by
  unfold closeK
  have : ∀ (m acc : List Int), (m.foldl insL acc).length ≤ acc.length + m.length := by
    intro m
    induction m with
    | nil => intro acc; simp
    | cons y r ih => intro acc; have h1 := ih (insL acc y); have h2 := insL_len acc y; simp only [List.foldl_cons, List.length_cons]; omega
  have h1 := this ((l.map (·.1)).take k) a
  have h2 : ((l.map (·.1)).take k).length ≤ k := List.length_take_le _ _
  omega
section
variable {f : List (List Int)} {a : List Int} {l : List (Int × Nat)} {c : Int} (h : Run f a l c) (hf : ∀ r ∈ f, mayB r = true) (ha : mayB a = true)
include h hf ha
theorem closeK_step {k : Nat} (hm : mayB (closeK a l k) = true) (hk : k < l.length) : joinR (closeK a l k) [(l.getD k (0, 0)).1] = (closeK a l (k + 1), 0) ∧ mayB (closeK a l (k + 1)) = true := by
  obtain ⟨g1, ⟨g2, g3⟩, g4, g5⟩ := run_open h hf k hk
  rw [closeK_succ hk]
  exact join_unit hm g1 (fun e => by rcases (closeK_mem _ _ _ _).1 e with e | e; exact g2 e; exact g4 e) (fun e => by rcases (closeK_mem _ _ _ _).1 e with e | e; exact g3 e; exact g5 e)
theorem closeK_may : ∀ k, k ≤ l.length → mayB (closeK a l k) = true := by
  intro k hk
  induction k with
  | zero => exact ha
  | succ k ih => exact (closeK_step h hf ha (ih (by omega)) (by omega)).2
theorem close_norm (hal : a.length ≤ 70000) (hl : l.length ≤ 20000) : normR (a ++ l.map (·.1)) = (closeK a l l.length, 0) := by
  have hlit : ∀ x ∈ a ++ l.map (·.1), litB x = true := fun x hx => by
    rcases List.mem_append.1 hx with hx | hx
    · exact mayB_mem ha x hx
    · obtain ⟨p, hp, rfl⟩ := List.mem_map.1 hx
      obtain ⟨j, hj, rfl⟩ := List.mem_iff_getElem.1 hp
      have := (run_open h hf j hj).1
      simpa [List.getD, hj] using this
  have e : sortI (a ++ l.map (·.1)) = closeK a l l.length := by
    unfold closeK
    rw [List.take_of_length_le (by simp)]
    conv => rhs; rw [← sortI_may ha]
    unfold sortI
    rw [List.foldl_append]
  unfold normR
  rw [if_neg (by simp; exact ⟨by omega, fun x hx => hlit x (by simpa using hx)⟩), e]
  exact tautR_yes (closeK_may h hf ha _ (Nat.le_refl _))
end

theorem run_c {f : List (List Int)} {H : List Int} {l : List (Int × Nat)} {c : Int} (h : Run f H l c) : c = -1 ∨ (0 ≤ c ∧ c < 9223372036854775807 ∨ 0 ≤ c) := by
  induction h with
  | done _ => exact .inl rfl
  | conf _ _ => exact .inr (.inr (Int.natCast_nonneg _))
  | step _ _ _ ih => exact ih

/-- What Close hands back. -/
def CloseOf (f : List (List Int)) (a r : List Int) (ok : Bool) (d : Int) : Prop :=
  (mayB a = true ∧ mayCnfB f = true ∧ d = 0 ∧ ∃ l c, Run f a l c ∧ ((c = -1 ∧ ok = true ∧ r = closeK a l l.length) ∨ (0 ≤ c ∧ ok = false ∧ r = []))) ∨ (¬ (mayB a = true ∧ mayCnfB f = true) ∧ d = 2 ∧ ok = false ∧ r = [])
theorem CloseOf.one {f : List (List Int)} {a r s : List Int} {p q : Bool} {d e : Int} (h : CloseOf f a r p d) (k : CloseOf f a s q e) : r = s ∧ p = q ∧ d = e := by
  rcases h with ⟨h1, h2, rfl, l, c, hr, h3⟩ | ⟨h1, rfl, rfl, rfl⟩
  · rcases k with ⟨_, _, rfl, m, c', hs, k3⟩ | ⟨k1, _⟩
    · obtain ⟨rfl, rfl⟩ := hr.one hs
      rcases h3 with ⟨h4, rfl, rfl⟩ | ⟨h4, rfl, rfl⟩
      · rcases k3 with ⟨_, rfl, rfl⟩ | ⟨k4, rfl, rfl⟩
        · exact ⟨rfl, rfl, rfl⟩
        · omega
      · rcases k3 with ⟨k4, rfl, rfl⟩ | ⟨_, rfl, rfl⟩
        · omega
        · exact ⟨rfl, rfl, rfl⟩
    · exact absurd ⟨h1, h2⟩ k1
  · rcases k with ⟨k1, k2, _⟩ | ⟨_, rfl, rfl, rfl⟩
    · exact absurd ⟨k1, k2⟩ h1
    · exact ⟨rfl, rfl, rfl⟩
def ClosePost (w : World) (f : List (List Int)) (a : List Int) (e : Ending) (w' : World) : Prop :=
  ∃ v r ok d, e = .returned (.tuple #[v, .bool ok, .int .i64 d]) ∧ IsInts w' v r ∧ Below w.heap.size w w' ∧ CloseOf f a r ok d

end Go.Proofs.YtmhjpbhldaagmaaDoor

/- asg.Close. -/
namespace Go.Proofs.YtmhjpbhldaagmaaDoor
open Go.RowKit
set_option linter.unusedVariables false

theorem IsSteps.shapeS {w : World} {v : Value} {l : List (Int × Nat)} (h : IsSteps w v l) : ∃ a cap, v = .slice a l.length cap := by obtain ⟨a, cap, rfl, _⟩ := h; exact ⟨a, cap, rfl⟩
theorem maplen (l : List (Int × Nat)) (k : Nat) (h : k ≤ l.length) : ((l.map (·.1)).take k).length = k := by simp [List.length_take]; omega
theorem maptake {l : List (Int × Nat)} {k : Nat} (h : k < l.length) : (l.map (·.1)).take (k + 1) = (l.map (·.1)).take k ++ [(l.getD k (0, 0)).1] := by
  rw [List.take_succ_eq_append_getElem (by simpa using h)]; simp [List.getD, h]

/-- 'make([]int, 0, n)'. -/
theorem wpList_mkIntsCap {w : World} {ops : Array Oper} {rest : List Oper} {o : Oper} {a : Act} {Q : Exit → Act → World → Prop} (hgd : o.guard = none) (l c : Operand)
    (hop : o.op = Op.makeSlice 23 l c) (n : Nat) (hl : a.eval l = .int .i64 0) (C : Int) (hc : a.eval c = .int .i64 C) (hC : C = (n : Int)) (hn : n ≤ 17592186044416)
    (h : ∀ w', Own w' w.heap.size (.slice (some ⟨w.heap.size, 0, none⟩) 0 n) [] → w.grownBy w' none → wpList Tryd.prog ops Q rest (a.put o.dst (.slice (some ⟨w.heap.size, 0, none⟩) 0 n)) w') : wpList Tryd.prog ops Q (o :: rest) a w := by
  obtain ⟨i0, hi, hz0, hz1, hz2⟩ := info_parts info_int
  exact wpList_make_own w hgd l c 23 hop w.heap.size 3 i0 (.int .i64 0) 1 Tryd.underlying23 hi hz0 hz1 .i64 .i64 C n hl hc hC (by rw [hz2]; omega) (by unfold maxLen; omega) (Nat.le_refl _) h

set_option maxHeartbeats 1600000 in
set_option maxRecDepth 100000 in
theorem close_any (vf va : Value) (f : List (List Int)) (a : List Int) (w : World) (HR : IsRows w vf f) (HA : IsInts w va a) :
    Calls Tryd.prog 22 #[vf, va] w (ClosePost w f a) := by
  have hu := units_any vf va f a w HR HA
  have HU := Lib.hid hu
  have HHA := Lib.hid HA
  obtain ⟨av, cv, rfl, hfl⟩ := HR.shape
  obtain ⟨aa, ca, rfl⟩ := HA.shape
  clear hu HR HA
  go_enter Tryd.func22, Tryd.ntmps22
  go_wp2_with fail
  refine HU.out.mono ?_
  rintro e w1 ⟨v1, l, c, d, rfl, hst, hb1, hcase⟩
  obtain ⟨a1, c1, rfl⟩ := hst.shapeS
  rcases hcase with ⟨hm, hc, rfl, hrun, hlen⟩ | ⟨hno, rfl, rfl, rfl⟩
  · have hcc := run_c hrun
    have hm9 := cnf_may hc
    have hl2 : l.length ≤ 20000 := by unfold mayCnfB at hc; rw [decide_eq_true_eq] at hc; omega
    have hal : a.length ≤ 70000 := by have := may_len (p := 0) (by decide) hm; omega
    by_cases hneg : c = -1
    · have HN := Lib.hid (close_norm hrun hm9 hm hal hl2)
      have HCO : Hid (CloseOf f a (closeK a l l.length) true 0) := .inl ⟨hm, hc, rfl, l, c, hrun, .inl ⟨hneg, rfl, rfl⟩⟩
      have HIN : Hid (In64 (a ++ l.map (·.1))) := by
        show In64 _
        intro x hx
        rcases List.mem_append.1 hx with hx | hx
        · have := litB_bd (mayB_mem hm x hx); omega
        · obtain ⟨p, hp, rfl⟩ := List.mem_map.1 hx
          obtain ⟨j, hj, rfl⟩ := List.mem_iff_getElem.1 hp
          have h1 := (run_open hrun hm9 j hj).1
          have e : l.getD j (0, 0) = l[j] := by simp [List.getD, hj]
          rw [e] at h1
          have := litB_bd h1
          omega
      subst hneg
      have HS := Lib.hid hst
      have hs1 := hb1.size
      have HA1 := Lib.hid (HHA.out.below hb1 (Nat.le_refl _))
      have HB1 := Lib.hid hb1
      obtain ⟨a1', c1', hse, _, _, _, _, b1, has1, hcs1⟩ := hst
      injection hse with e1 _ e3
      subst e1; subst e3
      have HCS := Lib.hid hcs1
      have HAS := Lib.hid has1
      clear hrun hm hc hm9 hcc hb1 hcs1 has1 hlen
      go_wp2_with (first
        | (at_make; refine wpList_mkIntsCap rfl _ _ rfl (a.length + l.length) rfl _ rfl (by omega) (by omega) ?_; intro w2 hown2 hg2; have hz2 := (Below.refl w1.heap.size w1).grown hg2 (Nat.le_refl _) (fun k hk => by cases hk); have hA2 := HA1.out.below hz2 (Nat.le_refl _); have hs2 := hz2.size)
        | (at_builtin; refine wpList_app rfl (.tmp 34) (.tmp 35) rfl w1.heap.size _ _ [] a rfl rfl hown2 hA2 (by simp <;> omega) hs2 ?_; intro v3 w3 hown3 hg3))
      have hb3 := below_app hz2 hown2 hs2 hg3
      have hown4 : Own w3 w1.heap.size v3 (a ++ (l.map (·.1)).take 0) := by simpa using hown3
      clear hg3 hown3 hown2 hA2 hz2 hs2 hg2
      go_loopw [10, 39] (fun out i wr => ∃ k : Nat, k ≤ l.length ∧ i = .int .i64 k ∧ Own wr w1.heap.size out (a ++ (l.map (·.1)).take k) ∧ Below w1.heap.size w1 wr) (fun _ i _ => l.length - (intOf i).toNat)
      case atStart => exact ⟨0, Nat.zero_le _, rfl, hown4, hb3⟩
      case round =>
        clear hown4 hb3
        obtain ⟨k, hk, rfl, hown, hbel⟩ := hrel
        have hsz := hbel.size
        by_cases hlt : k < l.length
        · obtain ⟨rfl, hb⟩ := HAS.out (by intro h; simp [h] at hlt)
          have hx1 : wr.cell? ⟨b1, k * 2, none⟩ = some (.int .i64 (l.getD k (0, 0)).1) := by rw [Nat.mul_comm k 2]; exact (hbel.cell (p := ⟨b1, 2 * k, none⟩) hb).trans (HCS.out k hlt).1
          have hx2 : wr.cell? ⟨b1, k * 2 + 1, none⟩ = some (.int .i64 ((l.getD k (0, 0)).2 : Int)) := by rw [Nat.mul_comm k 2]; exact (hbel.cell (p := ⟨b1, 2 * k + 1, none⟩) hb).trans (HCS.out k hlt).2
          have HT := Lib.hid (maptake hlt)
          have hle := maplen l k hk
          have HB := Lib.hid hbel
          have HO := Lib.hid hown
          clear hbel hown
          generalize l.getD k (0, 0) = y at *
          obtain ⟨y1, y2⟩ := y
          simp only at hx1 hx2
          generalize (l.map (·.1)).take k = P at *
          go_wp2_with (at_builtin; refine wpList_app1 rfl (.tmp 43) (.tmp 46) rfl w1.heap.size _ _ y1 (wr.heap.size + 1) rfl rfl ((HO.out.alloc _).alloc _) (by simp) (by simp <;> omega) (by simp <;> omega) ?_; intro v' w' hown' hg')
          go_roundw
          case rel => exact ⟨k + 1, by omega, by go_num, by rw [HT.out, ← List.append_assoc]; exact hown', below_app ((HB.out.alloc (by omega) _).alloc (by simp <;> omega) _) ((HO.out.alloc _).alloc _) (by simp <;> omega) hg'⟩
          case measure => simp [intOf]; omega
        · have hown5 := hown
          rw [List.take_of_length_le (by simp; omega)] at hown5
          have HIV := Lib.hid (hown5.ints (by simp; omega) HIN.out)
          have hnm := norm_any _ _ wr HIV.out
          rw [HN.out] at hnm
          have HNM := Lib.hid hnm
          have HBW := Lib.hid (HB1.out.trans (hbel.mono hs1))
          clear hown hown5 hnm hbel
          go_wp2_with (go_at_call 52; refine HNM.out.mono ?_; rintro e w9 ⟨v9, rfl, hi9, hz9⟩; have hb9 := HBW.out.trans (hz9.mono HBW.out.size))
          go_ret3
          exact ⟨_, _, true, 0, rfl, hi9, hb9, HCO.out⟩
    · have hpos : 0 ≤ c := by omega
      have HCO : Hid (CloseOf f a [] false 0) := .inl ⟨hm, hc, rfl, l, c, hrun, .inr ⟨hpos, rfl, rfl⟩⟩
      have hn := IsInts.nil w1
      clear hrun hcc hneg
      go_wp2
      go_ret3
      exact ⟨_, [], false, 0, rfl, hn, hb1, HCO.out⟩
  · have HCO : Hid (CloseOf f a [] false 2) := .inr ⟨hno, rfl, rfl, rfl⟩
    have hn := IsInts.nil w1
    go_wp2
    go_ret3
    exact ⟨_, [], false, 2, rfl, hn, hb1, HCO.out⟩

end Go.Proofs.YtmhjpbhldaagmaaDoor

/- The reference's Close. -/
namespace Go.Proofs.YtmhjpbhldaagmaaDoor
open Go.RowKit
set_option linter.unusedVariables false

end Go.Proofs.YtmhjpbhldaagmaaDoor
