/- Proved: the law AigCones returns true for every graph and two lists of integers that are together of bulk at most 1048576 (the small form), and its arguments read behind the call as before. -/
import Derived.Test.YtfghjfljomcldaaGreatAgOpen
import Derived.Test.YtfghjfljomcldaaGreatAgLawCon
import Derived.Test.YtfghjfljomcldaaGreatAgFacts
import Derived.SevenTiedAt
import Derived.JoinedCond
import Derived.Deep.CondSized
namespace Go.Proofs.YtfghjfljomcldaaGreat
open Go.ChangeShapes Go.WideShapes Go.ChangeAt Go.RowKit
set_option linter.unusedVariables false

set_option maxRecDepth 100000 in
theorem acones_contract (H : Type) (enc : TypeId × Value → H) (W : World) (base : Nat) (args : Array Value) (ds gs : List (DataW H)) (before : List MemPlace)
    (hval : ∀ (j : Nat) t v, Tryz.f5.params[j]? = some t → args[j]? = some v → Value.okWide Tryz.prog W .any base t v)
    (hW : DataW.Whole enc Tryz.prog Tryz.f5.params.toList Rows.aigConesSpec.vars false W args.toList ds gs before) (hk : Rows.uptoSmall H (ds ++ gs) = true)
    (hsz : (DataW.weightsEach Tryz.prog (Tryz.f5.params.toList ++ Rows.aigConesSpec.plain.varTypes Tryz.prog) (ds ++ gs)).all (· ≤ reachBytes) = true) :
    Calls Tryz.prog 5 args W fun e W' => ∃ v, e = .returned v ∧ Rows.aigConesSpec.post enc Tryz.prog Tryz.f5 false true false false W args v W' := by
  have hW' := hW
  obtain ⟨p, q, hA0, hV, rfl, hfz, hnd⟩ := hW
  have hA : DataW.TrodAll enc Tryz.prog W 0 (fun _ => true) true Tryz.f5.params.toList args.toList ds p := hA0
  rw [Tryz.params5] at hA hval hsz
  obtain ⟨v0, vs0, d0, ds0, p0, q0, hargs, rfl, rfl, h0, r0⟩ := trodAll_cons hA
  obtain ⟨v1, vs1, d1, ds1, p1, q1, rfl, rfl, rfl, h1, r1⟩ := trodAll_cons r0
  obtain ⟨v2, vs2, d2, ds2, p2, q2, rfl, rfl, rfl, h2, r2⟩ := trodAll_cons r1
  obtain ⟨rfl, rfl, rfl⟩ := trodAll_nil r2
  obtain rfl : args = #[v0, v1, v2] := by cases args; simp_all
  obtain ⟨rfl, rfl⟩ := trodVars_none hV
  have hbk : Rows.uptoBulkAll ([d0, d1, d2] ++ ([] : List (DataW H))) ≤ 1048576 := of_decide_eq_true hk
  simp only [List.append_nil, Rows.uptoBulkAll] at hbk
  have k0 := h0
  have lt0 : ∀ x ∈ p0, x.block < W.heap.size := by obtain ⟨m, hm⟩ := k0; exact DataW.trod_lt m _ _ _ hm
  have hw0 : ∀ n ∈ d0.weights Tryz.prog 25, n ≤ 140737488351232 := fun n hn => by
    have := List.all_eq_true.1 hsz n (DataW.weights_mem_each (j := 0) (t := 25) (d := d0) rfl rfl n hn)
    exact (of_decide_eq_true this : n ≤ reachBytes)
  have k1 := h1
  have lt1 : ∀ x ∈ p1, x.block < W.heap.size := by obtain ⟨m, hm⟩ := k1; exact DataW.trod_lt m _ _ _ hm
  have hw1 : ∀ n ∈ d1.weights Tryz.prog 22, n ≤ 140737488351232 := fun n hn => by
    have := List.all_eq_true.1 hsz n (DataW.weights_mem_each (j := 1) (t := 22) (d := d1) rfl rfl n hn)
    exact (of_decide_eq_true this : n ≤ reachBytes)
  have k2 := h2
  have lt2 : ∀ x ∈ p2, x.block < W.heap.size := by obtain ⟨m, hm⟩ := k2; exact DataW.trod_lt m _ _ _ hm
  have hw2 : ∀ n ∈ d2.weights Tryz.prog 22, n ≤ 140737488351232 := fun n hn => by
    have := List.all_eq_true.1 hsz n (DataW.weights_mem_each (j := 2) (t := 22) (d := d2) rfl rfl n hn)
    exact (of_decide_eq_true this : n ≤ reachBytes)
  obtain ⟨gi0, ga0, I0, A0, rfl, HI0, HA0, hG0⟩ := graph_of (hval 0 25 v0 rfl rfl) h0 hw0
  obtain ⟨a1, n1, c1, rfl⟩ := okWide_slice Tryz.underlying22 (hval 1 22 v1 rfl rfl)
  obtain ⟨L1, HL1, hL1⟩ : ∃ l, IsInts W (.slice a1 n1 c1) l ∧ l.length ≤ Rows.uptoBulk d1 := by
    obtain ⟨fuel, hf⟩ := h1
    exact gintv_of hf hw1
  obtain ⟨a2, n2, c2, rfl⟩ := okWide_slice Tryz.underlying22 (hval 2 22 v2 rfl rfl)
  obtain ⟨L2, HL2, hL2⟩ : ∃ l, IsInts W (.slice a2 n2 c2) l ∧ l.length ≤ Rows.uptoBulk d2 := by
    obtain ⟨fuel, hf⟩ := h2
    exact gintv_of hf hw2
  have walk := aigcones_any _ _ _ _ I0 A0 L1 L2 W HI0 HA0 HL1 HL2 (by omega) (by omega) (by omega) (by omega)
  clear hA0
  refine walk.mono fun e W' ⟨he, bel⟩ => ?_
  subst he
  exact ⟨_, rfl, _, _, _, [], _, [], hW', trodAll_mk1 (shut_bool Tryz.underlying4 _), (trodAll_cons_mk (Below.trod laidOut (by kernel_rfl) (of_decide_eq_true (by kernel_rfl)) k0 bel lt0) (trodAll_cons_mk (Below.trod laidOut (by kernel_rfl) (of_decide_eq_true (by kernel_rfl)) k1 bel lt1) (trodAll_cons_mk (Below.trod laidOut (by kernel_rfl) (of_decide_eq_true (by kernel_rfl)) k2 bel lt2) trodAll_mk0))), rfl, bel.frame _, fun h => by cases h⟩

set_option maxRecDepth 100000 in
theorem acones_lifted (os : Os) (started : os.Started) (H : Type) (enc : TypeId × Value → H) (F : Stop.Interp) :
    ReturnsInHanded {} Tryz.checked os 5 .any ((Rows.OpenSpec.upto Rows.aigConesSpec).pre6 enc Tryz.prog Tryz.f5 Rows.aigConesUptoRow.domain false) (((Rows.OpenSpec.upto Rows.aigConesSpec).at F).post enc Tryz.prog Tryz.f5 false true false false) := by
  refine returnsInHanded_of_cond_sized (C := Tryz.checked) (s := Rows.OpenSpec.upto Rows.aigConesSpec) (k := Rows.uptoSmall) rfl own started (by kernel_rfl) Tryz.func5
    (OpenSpec.witness (enc := enc) (C := Tryz.checked) (s := Rows.OpenSpec.upto Rows.aigConesSpec) (k := Rows.uptoSmall) rfl false ⟨#[], #[.agg #[.slice none 0 0, .slice none 0 0], .slice none 0 0, .slice none 0 0], []⟩ 8 (by kernel_rfl) (by kernel_rfl) (by kernel_rfl)
      (x := ([.agg [.nil, .nil], .nil, .nil], [], [])) (by kernel_rfl) rfl (by kernel_rfl)) ?_
  intro W base args ds gs before hval hW _ hk hsz _
  exact acones_contract H enc W base args ds gs before hval hW hk hsz

set_option maxHeartbeats 0
theorem aigCones_inpl : (Rows.aigConesUptoRow.inPlace == Tryz.checked.prog.inPlace 5) = true := by kernel_rfl
theorem aigCones_unfo : (Rows.aigConesUptoRow.unfollowed == Tryz.checked.prog.unfollowed 5) = true := by kernel_rfl
theorem aigCones_recu : (Rows.aigConesUptoRow.recurses == Tryz.checked.prog.recurses 5) = true := by kernel_rfl
theorem aigCones_vars : (Rows.aigConesUptoRow.named == Tryz.checked.prog.varsNamed 5) = true := by kernel_rfl
theorem aigCones_lift : (Rows.aigConesUptoRow.lifted == Tryz.checked.prog.liftsFinal) = true := ag_lifted
theorem aigCones_make : (Tryz.checked.prog.make == some Rows.aigConesUptoRow.make) = true := ag_make
theorem aigCones_keys : (Rows.aigConesUptoRow.plainKeys == Tryz.checked.prog.plainKeys) = true := ag_keys
set_option maxRecDepth 100000 in
theorem aigCones_facts : joinedFacts Tryz.checked.prog 5 Tryz.f5 (Rows.OpenSpec.upto Rows.aigConesSpec).bare Rows.aigConesUptoRow = true := by
  unfold joinedFacts
  repeat' (with_reducible refine and_both ?_ ?_)
  all_goals (first | with_reducible exact ag_laid | with_reducible exact ag_maps | with_reducible exact ag_heard | with_reducible exact ag_enter | with_reducible exact aigCones_inpl | with_reducible exact aigCones_unfo | with_reducible exact aigCones_recu | with_reducible exact aigCones_vars | with_reducible exact aigCones_lift | with_reducible exact aigCones_make | with_reducible exact aigCones_keys | (as_aux_lemma => kernel_rfl))
theorem aigCones_inst : Tryz.f5.isInstance Tryz.checked.prog Rows.aigConesUptoRow.origin Rows.aigConesUptoRow.targs := of_decide_eq_true (by kernel_rfl)
theorem aigCones_wrap : Tryz.f5.isWrapper Tryz.checked.prog Rows.aigConesUptoRow.wrapper Rows.aigConesUptoRow.mainSum := by unfold Func.isWrapper; first | (rw [if_pos (by decide +kernel)]; kernel_rfl) | (rw [if_neg (by decide +kernel)]; exact ⟨rfl, rfl⟩)
theorem aigCones_fn : Tryz.checked.prog.funcNamed Rows.aigConesUptoRow.func = some 5 := by kernel_rfl
theorem aigCones_upto : Rows.AigConesUptoSaid :=
  OpenClaim.holds_of_cond 5 Tryz.f5 rfl rfl rfl rfl rfl rfl rfl ⟨rfl, rfl, rfl, rfl, rfl⟩ rfl rfl rfl rfl rfl aigCones_fn Tryz.func5 aigCones_facts aigCones_inst aigCones_wrap
    (fun os started H enc _ F => acones_lifted os started H enc F)
end Go.Proofs.YtfghjfljomcldaaGreat
