/- Proved: the law AigMeans returns true for every two graphs, three lists of integers and list of replacements that are together of bulk at most 1048576 (the small form), and its arguments read behind the call as before. -/
import Derived.Test.YtppglbffmgnooaaGreatB01
import Derived.Test.YtppglbffmgnooaaGreatAgLawMea
import Derived.Test.YtppglbffmgnooaaGreatAgFacts
import Derived.SevenTiedAt
import Derived.JoinedCond
import Derived.Deep.CondSized
namespace Go.Proofs.YtppglbffmgnooaaGreat
open Go.ChangeShapes Go.WideShapes Go.ChangeAt Go.RowKit
set_option linter.unusedVariables false

set_option maxRecDepth 100000 in
theorem ameans_contract (H : Type) (enc : TypeId × Value → H) (W : World) (base : Nat) (args : Array Value) (ds gs : List (DataW H)) (before : List MemPlace)
    (hval : ∀ (j : Nat) t v, Tryz.f8.params[j]? = some t → args[j]? = some v → Value.okWide Tryz.prog W .any base t v)
    (hW : DataW.Whole enc Tryz.prog Tryz.f8.params.toList Rows.aigMeansSpec.vars false W args.toList ds gs before) (hk : Rows.uptoSmall H (ds ++ gs) = true)
    (hsz : (DataW.weightsEach Tryz.prog (Tryz.f8.params.toList ++ Rows.aigMeansSpec.plain.varTypes Tryz.prog) (ds ++ gs)).all (· ≤ reachBytes) = true) :
    Calls Tryz.prog 8 args W fun e W' => ∃ v, e = .returned v ∧ Rows.aigMeansSpec.post enc Tryz.prog Tryz.f8 false true false false W args v W' := by
  have hW' := hW
  obtain ⟨p, q, hA0, hV, rfl, hfz, hnd⟩ := hW
  have hA : DataW.TrodAll enc Tryz.prog W 0 (fun _ => true) true Tryz.f8.params.toList args.toList ds p := hA0
  rw [Tryz.params8] at hA hval hsz
  obtain ⟨v0, vs0, d0, ds0, p0, q0, hargs, rfl, rfl, h0, r0⟩ := trodAll_cons hA
  obtain ⟨v1, vs1, d1, ds1, p1, q1, rfl, rfl, rfl, h1, r1⟩ := trodAll_cons r0
  obtain ⟨v2, vs2, d2, ds2, p2, q2, rfl, rfl, rfl, h2, r2⟩ := trodAll_cons r1
  obtain ⟨v3, vs3, d3, ds3, p3, q3, rfl, rfl, rfl, h3, r3⟩ := trodAll_cons r2
  obtain ⟨v4, vs4, d4, ds4, p4, q4, rfl, rfl, rfl, h4, r4⟩ := trodAll_cons r3
  obtain ⟨v5, vs5, d5, ds5, p5, q5, rfl, rfl, rfl, h5, r5⟩ := trodAll_cons r4
  obtain ⟨rfl, rfl, rfl⟩ := trodAll_nil r5
  obtain rfl : args = #[v0, v1, v2, v3, v4, v5] := by cases args; simp_all
  obtain ⟨rfl, rfl⟩ := trodVars_none hV
  have hbk : Rows.uptoBulkAll ([d0, d1, d2, d3, d4, d5] ++ ([] : List (DataW H))) ≤ 1048576 := of_decide_eq_true hk
  simp only [List.append_nil, Rows.uptoBulkAll] at hbk
  have k0 := h0
  have lt0 : ∀ x ∈ p0, x.block < W.heap.size := by obtain ⟨m, hm⟩ := k0; exact DataW.trod_lt m _ _ _ hm
  have hw0 : ∀ n ∈ d0.weights Tryz.prog 25, n ≤ 140737488351232 := fun n hn => by
    have := List.all_eq_true.1 hsz n (DataW.weights_mem_each (j := 0) (t := 25) (d := d0) rfl rfl n hn)
    exact (of_decide_eq_true this : n ≤ reachBytes)
  have k1 := h1
  have lt1 : ∀ x ∈ p1, x.block < W.heap.size := by obtain ⟨m, hm⟩ := k1; exact DataW.trod_lt m _ _ _ hm
  have hw1 : ∀ n ∈ d1.weights Tryz.prog 25, n ≤ 140737488351232 := fun n hn => by
    have := List.all_eq_true.1 hsz n (DataW.weights_mem_each (j := 1) (t := 25) (d := d1) rfl rfl n hn)
    exact (of_decide_eq_true this : n ≤ reachBytes)
  have k2 := h2
  have lt2 : ∀ x ∈ p2, x.block < W.heap.size := by obtain ⟨m, hm⟩ := k2; exact DataW.trod_lt m _ _ _ hm
  have hw2 : ∀ n ∈ d2.weights Tryz.prog 22, n ≤ 140737488351232 := fun n hn => by
    have := List.all_eq_true.1 hsz n (DataW.weights_mem_each (j := 2) (t := 22) (d := d2) rfl rfl n hn)
    exact (of_decide_eq_true this : n ≤ reachBytes)
  have k3 := h3
  have lt3 : ∀ x ∈ p3, x.block < W.heap.size := by obtain ⟨m, hm⟩ := k3; exact DataW.trod_lt m _ _ _ hm
  have hw3 : ∀ n ∈ d3.weights Tryz.prog 22, n ≤ 140737488351232 := fun n hn => by
    have := List.all_eq_true.1 hsz n (DataW.weights_mem_each (j := 3) (t := 22) (d := d3) rfl rfl n hn)
    exact (of_decide_eq_true this : n ≤ reachBytes)
  have k4 := h4
  have lt4 : ∀ x ∈ p4, x.block < W.heap.size := by obtain ⟨m, hm⟩ := k4; exact DataW.trod_lt m _ _ _ hm
  have hw4 : ∀ n ∈ d4.weights Tryz.prog 22, n ≤ 140737488351232 := fun n hn => by
    have := List.all_eq_true.1 hsz n (DataW.weights_mem_each (j := 4) (t := 22) (d := d4) rfl rfl n hn)
    exact (of_decide_eq_true this : n ≤ reachBytes)
  have k5 := h5
  have lt5 : ∀ x ∈ p5, x.block < W.heap.size := by obtain ⟨m, hm⟩ := k5; exact DataW.trod_lt m _ _ _ hm
  have hw5 : ∀ n ∈ d5.weights Tryz.prog 60, n ≤ 140737488351232 := fun n hn => by
    have := List.all_eq_true.1 hsz n (DataW.weights_mem_each (j := 5) (t := 60) (d := d5) rfl rfl n hn)
    exact (of_decide_eq_true this : n ≤ reachBytes)
  obtain ⟨gi0, ga0, I0, A0, rfl, HI0, HA0, hG0⟩ := graph_of (hval 0 25 v0 rfl rfl) h0 hw0
  obtain ⟨gi1, ga1, I1, A1, rfl, HI1, HA1, hG1⟩ := graph_of (hval 1 25 v1 rfl rfl) h1 hw1
  obtain ⟨a2, n2, c2, rfl⟩ := okWide_slice Tryz.underlying22 (hval 2 22 v2 rfl rfl)
  obtain ⟨L2, HL2, hL2⟩ : ∃ l, IsInts W (.slice a2 n2 c2) l ∧ l.length ≤ Rows.uptoBulk d2 := by
    obtain ⟨fuel, hf⟩ := h2
    exact gintv_of hf hw2
  obtain ⟨a3, n3, c3, rfl⟩ := okWide_slice Tryz.underlying22 (hval 3 22 v3 rfl rfl)
  obtain ⟨L3, HL3, hL3⟩ : ∃ l, IsInts W (.slice a3 n3 c3) l ∧ l.length ≤ Rows.uptoBulk d3 := by
    obtain ⟨fuel, hf⟩ := h3
    exact gintv_of hf hw3
  obtain ⟨a4, n4, c4, rfl⟩ := okWide_slice Tryz.underlying22 (hval 4 22 v4 rfl rfl)
  obtain ⟨L4, HL4, hL4⟩ : ∃ l, IsInts W (.slice a4 n4 c4) l ∧ l.length ≤ Rows.uptoBulk d4 := by
    obtain ⟨fuel, hf⟩ := h4
    exact gintv_of hf hw4
  obtain ⟨a5, n5, c5, rfl⟩ := okWide_slice Tryz.underlying60 (hval 5 60 v5 rfl rfl)
  obtain ⟨B5, HB5, hB5⟩ : ∃ l, IsPairs W (.slice a5 n5 c5) l ∧ l.length ≤ Rows.uptoBulk d5 := by
    obtain ⟨fuel, hf⟩ := h5
    exact gouts_of hf hw5
  have walk := aigmeans_any _ _ _ _ _ _ _ _ I0 A0 I1 A1 L2 L3 L4 B5 W HI0 HA0 HI1 HA1 HL2 HL3 HL4 HB5 (by omega) (by omega) (by omega) (by omega) (by omega) (by omega) (by omega) (by omega)
  clear hA0
  refine walk.mono fun e W' ⟨he, bel⟩ => ?_
  subst he
  exact ⟨_, rfl, _, _, _, [], _, [], hW', trodAll_mk1 (shut_bool Tryz.underlying4 _), (trodAll_cons_mk (Below.trod laidOut (by kernel_rfl) (of_decide_eq_true (by kernel_rfl)) k0 bel lt0) (trodAll_cons_mk (Below.trod laidOut (by kernel_rfl) (of_decide_eq_true (by kernel_rfl)) k1 bel lt1) (trodAll_cons_mk (Below.trod laidOut (by kernel_rfl) (of_decide_eq_true (by kernel_rfl)) k2 bel lt2) (trodAll_cons_mk (Below.trod laidOut (by kernel_rfl) (of_decide_eq_true (by kernel_rfl)) k3 bel lt3) (trodAll_cons_mk (Below.trod laidOut (by kernel_rfl) (of_decide_eq_true (by kernel_rfl)) k4 bel lt4) (trodAll_cons_mk (Below.trod laidOut (by kernel_rfl) (of_decide_eq_true (by kernel_rfl)) k5 bel lt5) trodAll_mk0)))))), rfl, bel.frame _, fun h => by cases h⟩

set_option maxRecDepth 100000 in
theorem ameans_lifted (os : Os) (started : os.Started) (H : Type) (enc : TypeId × Value → H) (F : Stop.Interp) :
    ReturnsInHanded {} Tryz.checked os 8 .any ((Rows.OpenSpec.upto Rows.aigMeansSpec).pre6 enc Tryz.prog Tryz.f8 Rows.aigMeansUptoRow.domain false) (((Rows.OpenSpec.upto Rows.aigMeansSpec).at F).post enc Tryz.prog Tryz.f8 false true false false) := by
  refine returnsInHanded_of_cond_sized (C := Tryz.checked) (s := Rows.OpenSpec.upto Rows.aigMeansSpec) (k := Rows.uptoSmall) rfl own started (by kernel_rfl) Tryz.func8
    (OpenSpec.witness (enc := enc) (C := Tryz.checked) (s := Rows.OpenSpec.upto Rows.aigMeansSpec) (k := Rows.uptoSmall) rfl false ⟨#[], #[.agg #[.slice none 0 0, .slice none 0 0], .agg #[.slice none 0 0, .slice none 0 0], .slice none 0 0, .slice none 0 0, .slice none 0 0, .slice none 0 0], []⟩ 8 (by kernel_rfl) (by kernel_rfl) (by kernel_rfl)
      (x := ([.agg [.nil, .nil], .agg [.nil, .nil], .nil, .nil, .nil, .nil], [], [])) (by kernel_rfl) rfl (by kernel_rfl)) ?_
  intro W base args ds gs before hval hW _ hk hsz _
  exact ameans_contract H enc W base args ds gs before hval hW hk hsz

set_option maxHeartbeats 0
theorem aigMeans_inpl : (Rows.aigMeansUptoRow.inPlace == Tryz.checked.prog.inPlace 8) = true := by kernel_rfl
theorem aigMeans_unfo : (Rows.aigMeansUptoRow.unfollowed == Tryz.checked.prog.unfollowed 8) = true := by kernel_rfl
theorem aigMeans_recu : (Rows.aigMeansUptoRow.recurses == Tryz.checked.prog.recurses 8) = true := by kernel_rfl
theorem aigMeans_vars : (Rows.aigMeansUptoRow.named == Tryz.checked.prog.varsNamed 8) = true := by kernel_rfl
theorem aigMeans_lift : (Rows.aigMeansUptoRow.lifted == Tryz.checked.prog.liftsFinal) = true := ag_lifted
theorem aigMeans_make : (Tryz.checked.prog.make == some Rows.aigMeansUptoRow.make) = true := ag_make
theorem aigMeans_keys : (Rows.aigMeansUptoRow.plainKeys == Tryz.checked.prog.plainKeys) = true := ag_keys
set_option maxRecDepth 100000 in
theorem aigMeans_facts : joinedFacts Tryz.checked.prog 8 Tryz.f8 (Rows.OpenSpec.upto Rows.aigMeansSpec).bare Rows.aigMeansUptoRow = true := by
  unfold joinedFacts
  repeat' (with_reducible refine and_both ?_ ?_)
  all_goals (first | with_reducible exact ag_laid | with_reducible exact ag_maps | with_reducible exact ag_heard | with_reducible exact ag_enter | with_reducible exact aigMeans_inpl | with_reducible exact aigMeans_unfo | with_reducible exact aigMeans_recu | with_reducible exact aigMeans_vars | with_reducible exact aigMeans_lift | with_reducible exact aigMeans_make | with_reducible exact aigMeans_keys | (as_aux_lemma => kernel_rfl))
theorem aigMeans_inst : Tryz.f8.isInstance Tryz.checked.prog Rows.aigMeansUptoRow.origin Rows.aigMeansUptoRow.targs := of_decide_eq_true (by kernel_rfl)
theorem aigMeans_wrap : Tryz.f8.isWrapper Tryz.checked.prog Rows.aigMeansUptoRow.wrapper Rows.aigMeansUptoRow.mainSum := by unfold Func.isWrapper; first | (rw [if_pos (by decide +kernel)]; kernel_rfl) | (rw [if_neg (by decide +kernel)]; exact ⟨rfl, rfl⟩)
theorem aigMeans_fn : Tryz.checked.prog.funcNamed Rows.aigMeansUptoRow.func = some 8 := by kernel_rfl
theorem aigMeans_upto : Rows.AigMeansUptoSaid :=
  OpenClaim.holds_of_cond 8 Tryz.f8 rfl rfl rfl rfl rfl rfl rfl ⟨rfl, rfl, rfl, rfl, rfl⟩ rfl rfl rfl rfl rfl aigMeans_fn Tryz.func8 aigMeans_facts aigMeans_inst aigMeans_wrap
    (fun os started H enc _ F => ameans_lifted os started H enc F)
end Go.Proofs.YtppglbffmgnooaaGreat
