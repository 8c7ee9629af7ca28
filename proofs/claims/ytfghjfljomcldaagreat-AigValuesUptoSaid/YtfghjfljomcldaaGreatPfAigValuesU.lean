/- Proved: the law AigValues returns true for every graph, edge and two lists of integers that are together of bulk at most 1048576 (the small form), and its arguments read behind the call as before. -/
import Derived.Test.YtfghjfljomcldaaGreatAgOpen
import Derived.Test.YtfghjfljomcldaaGreatAgLawVal
import Derived.Test.YtfghjfljomcldaaGreatAgFacts
import Derived.SevenTiedAt
import Derived.JoinedCond
import Derived.Deep.CondSized
namespace Go.Proofs.YtfghjfljomcldaaGreat
open Go.ChangeShapes Go.WideShapes Go.ChangeAt Go.RowKit
set_option linter.unusedVariables false

set_option maxRecDepth 100000 in
theorem avalues_contract (H : Type) (enc : TypeId × Value → H) (W : World) (base : Nat) (args : Array Value) (ds gs : List (DataW H)) (before : List MemPlace)
    (hval : ∀ (j : Nat) t v, Tryz.f4.params[j]? = some t → args[j]? = some v → Value.okWide Tryz.prog W .any base t v)
    (hW : DataW.Whole enc Tryz.prog Tryz.f4.params.toList Rows.aigValuesSpec.vars false W args.toList ds gs before) (hk : Rows.uptoSmall H (ds ++ gs) = true)
    (hsz : (DataW.weightsEach Tryz.prog (Tryz.f4.params.toList ++ Rows.aigValuesSpec.plain.varTypes Tryz.prog) (ds ++ gs)).all (· ≤ reachBytes) = true) :
    Calls Tryz.prog 4 args W fun e W' => ∃ v, e = .returned v ∧ Rows.aigValuesSpec.post enc Tryz.prog Tryz.f4 false true false false W args v W' := by
  have hW' := hW
  obtain ⟨p, q, hA0, hV, rfl, hfz, hnd⟩ := hW
  have hA : DataW.TrodAll enc Tryz.prog W 0 (fun _ => true) true Tryz.f4.params.toList args.toList ds p := hA0
  rw [Tryz.params4] at hA hval hsz
  obtain ⟨v0, vs0, d0, ds0, p0, q0, hargs, rfl, rfl, h0, r0⟩ := trodAll_cons hA
  obtain ⟨v1, vs1, d1, ds1, p1, q1, rfl, rfl, rfl, h1, r1⟩ := trodAll_cons r0
  obtain ⟨v2, vs2, d2, ds2, p2, q2, rfl, rfl, rfl, h2, r2⟩ := trodAll_cons r1
  obtain ⟨v3, vs3, d3, ds3, p3, q3, rfl, rfl, rfl, h3, r3⟩ := trodAll_cons r2
  obtain ⟨rfl, rfl, rfl⟩ := trodAll_nil r3
  obtain rfl : args = #[v0, v1, v2, v3] := by cases args; simp_all
  obtain ⟨rfl, rfl⟩ := trodVars_none hV
  have hbk : Rows.uptoBulkAll ([d0, d1, d2, d3] ++ ([] : List (DataW H))) ≤ 1048576 := of_decide_eq_true hk
  simp only [List.append_nil, Rows.uptoBulkAll] at hbk
  have k0 := h0
  have lt0 : ∀ x ∈ p0, x.block < W.heap.size := by obtain ⟨m, hm⟩ := k0; exact DataW.trod_lt m _ _ _ hm
  have hw0 : ∀ n ∈ d0.weights Tryz.prog 25, n ≤ 140737488351232 := fun n hn => by
    have := List.all_eq_true.1 hsz n (DataW.weights_mem_each (j := 0) (t := 25) (d := d0) rfl rfl n hn)
    exact (of_decide_eq_true this : n ≤ reachBytes)
  have k2 := h2
  have lt2 : ∀ x ∈ p2, x.block < W.heap.size := by obtain ⟨m, hm⟩ := k2; exact DataW.trod_lt m _ _ _ hm
  have hw2 : ∀ n ∈ d2.weights Tryz.prog 22, n ≤ 140737488351232 := fun n hn => by
    have := List.all_eq_true.1 hsz n (DataW.weights_mem_each (j := 2) (t := 22) (d := d2) rfl rfl n hn)
    exact (of_decide_eq_true this : n ≤ reachBytes)
  have k3 := h3
  have lt3 : ∀ x ∈ p3, x.block < W.heap.size := by obtain ⟨m, hm⟩ := k3; exact DataW.trod_lt m _ _ _ hm
  have hw3 : ∀ n ∈ d3.weights Tryz.prog 22, n ≤ 140737488351232 := fun n hn => by
    have := List.all_eq_true.1 hsz n (DataW.weights_mem_each (j := 3) (t := 22) (d := d3) rfl rfl n hn)
    exact (of_decide_eq_true this : n ≤ reachBytes)
  obtain ⟨gi0, ga0, I0, A0, rfl, HI0, HA0, hG0⟩ := graph_of (hval 0 25 v0 rfl rfl) h0 hw0
  obtain ⟨x1, rfl, rfl, rfl, wx1⟩ := open_int Tryz.underlying3 (hval 1 3 v1 rfl rfl) h1
  have wi1 := i64_of_wf wx1
  obtain ⟨a2, n2, c2, rfl⟩ := okWide_slice Tryz.underlying22 (hval 2 22 v2 rfl rfl)
  obtain ⟨L2, HL2, hL2⟩ : ∃ l, IsInts W (.slice a2 n2 c2) l ∧ l.length ≤ Rows.uptoBulk d2 := by
    obtain ⟨fuel, hf⟩ := h2
    exact gintv_of hf hw2
  obtain ⟨a3, n3, c3, rfl⟩ := okWide_slice Tryz.underlying22 (hval 3 22 v3 rfl rfl)
  obtain ⟨L3, HL3, hL3⟩ : ∃ l, IsInts W (.slice a3 n3 c3) l ∧ l.length ≤ Rows.uptoBulk d3 := by
    obtain ⟨fuel, hf⟩ := h3
    exact gintv_of hf hw3
  have walk := aigvalues_any _ _ _ _ I0 A0 x1 L2 L3 W HI0 HA0 HL2 HL3 (by omega) (by omega) wi1.1 wi1.2 (by omega) (by omega)
  clear hA0
  refine walk.mono fun e W' ⟨he, bel⟩ => ?_
  subst he
  exact ⟨_, rfl, _, _, _, [], _, [], hW', trodAll_mk1 (shut_bool Tryz.underlying4 _), (trodAll_cons_mk (Below.trod laidOut (by kernel_rfl) (of_decide_eq_true (by kernel_rfl)) k0 bel lt0) (trodAll_cons_mk (shut_int Tryz.underlying3 wx1) (trodAll_cons_mk (Below.trod laidOut (by kernel_rfl) (of_decide_eq_true (by kernel_rfl)) k2 bel lt2) (trodAll_cons_mk (Below.trod laidOut (by kernel_rfl) (of_decide_eq_true (by kernel_rfl)) k3 bel lt3) trodAll_mk0)))), rfl, bel.frame _, fun h => by cases h⟩

set_option maxRecDepth 100000 in
theorem avalues_lifted (os : Os) (started : os.Started) (H : Type) (enc : TypeId × Value → H) (F : Stop.Interp) :
    ReturnsInHanded {} Tryz.checked os 4 .any ((Rows.OpenSpec.upto Rows.aigValuesSpec).pre6 enc Tryz.prog Tryz.f4 Rows.aigValuesUptoRow.domain false) (((Rows.OpenSpec.upto Rows.aigValuesSpec).at F).post enc Tryz.prog Tryz.f4 false true false false) := by
  refine returnsInHanded_of_cond_sized (C := Tryz.checked) (s := Rows.OpenSpec.upto Rows.aigValuesSpec) (k := Rows.uptoSmall) rfl own started (by kernel_rfl) Tryz.func4
    (OpenSpec.witness (enc := enc) (C := Tryz.checked) (s := Rows.OpenSpec.upto Rows.aigValuesSpec) (k := Rows.uptoSmall) rfl false ⟨#[], #[.agg #[.slice none 0 0, .slice none 0 0], .int .i64 0, .slice none 0 0, .slice none 0 0], []⟩ 8 (by kernel_rfl) (by kernel_rfl) (by kernel_rfl)
      (x := ([.agg [.nil, .nil], .lit (.int .i64 0), .nil, .nil], [], [])) (by kernel_rfl) rfl (by kernel_rfl)) ?_
  intro W base args ds gs before hval hW _ hk hsz _
  exact avalues_contract H enc W base args ds gs before hval hW hk hsz

set_option maxHeartbeats 0
theorem aigValues_inpl : (Rows.aigValuesUptoRow.inPlace == Tryz.checked.prog.inPlace 4) = true := by kernel_rfl
theorem aigValues_unfo : (Rows.aigValuesUptoRow.unfollowed == Tryz.checked.prog.unfollowed 4) = true := by kernel_rfl
theorem aigValues_recu : (Rows.aigValuesUptoRow.recurses == Tryz.checked.prog.recurses 4) = true := by kernel_rfl
theorem aigValues_vars : (Rows.aigValuesUptoRow.named == Tryz.checked.prog.varsNamed 4) = true := by kernel_rfl
theorem aigValues_lift : (Rows.aigValuesUptoRow.lifted == Tryz.checked.prog.liftsFinal) = true := ag_lifted
theorem aigValues_make : (Tryz.checked.prog.make == some Rows.aigValuesUptoRow.make) = true := ag_make
theorem aigValues_keys : (Rows.aigValuesUptoRow.plainKeys == Tryz.checked.prog.plainKeys) = true := ag_keys
set_option maxRecDepth 100000 in
theorem aigValues_facts : joinedFacts Tryz.checked.prog 4 Tryz.f4 (Rows.OpenSpec.upto Rows.aigValuesSpec).bare Rows.aigValuesUptoRow = true := by
  unfold joinedFacts
  repeat' (with_reducible refine and_both ?_ ?_)
  all_goals (first | with_reducible exact ag_laid | with_reducible exact ag_maps | with_reducible exact ag_heard | with_reducible exact ag_enter | with_reducible exact aigValues_inpl | with_reducible exact aigValues_unfo | with_reducible exact aigValues_recu | with_reducible exact aigValues_vars | with_reducible exact aigValues_lift | with_reducible exact aigValues_make | with_reducible exact aigValues_keys | (as_aux_lemma => kernel_rfl))
theorem aigValues_inst : Tryz.f4.isInstance Tryz.checked.prog Rows.aigValuesUptoRow.origin Rows.aigValuesUptoRow.targs := of_decide_eq_true (by kernel_rfl)
theorem aigValues_wrap : Tryz.f4.isWrapper Tryz.checked.prog Rows.aigValuesUptoRow.wrapper Rows.aigValuesUptoRow.mainSum := by unfold Func.isWrapper; first | (rw [if_pos (by decide +kernel)]; kernel_rfl) | (rw [if_neg (by decide +kernel)]; exact ⟨rfl, rfl⟩)
theorem aigValues_fn : Tryz.checked.prog.funcNamed Rows.aigValuesUptoRow.func = some 4 := by kernel_rfl
theorem aigValues_upto : Rows.AigValuesUptoSaid :=
  OpenClaim.holds_of_cond 4 Tryz.f4 rfl rfl rfl rfl rfl rfl rfl ⟨rfl, rfl, rfl, rfl, rfl⟩ rfl rfl rfl rfl rfl aigValues_fn Tryz.func4 aigValues_facts aigValues_inst aigValues_wrap
    (fun os started H enc _ F => avalues_lifted os started H enc F)
end Go.Proofs.YtfghjfljomcldaaGreat
