/- Proved: the law AigAgain returns true for every graph and list of integers that are together of bulk at most 1048576 (the small form), and its arguments read behind the call as before. -/
import Derived.Test.YtfghjfljomcldaaGreatAgOpen
import Derived.Test.YtfghjfljomcldaaGreatAgLawAgn
import Derived.Test.YtfghjfljomcldaaGreatAgFacts
import Derived.SevenTiedAt
import Derived.JoinedCond
import Derived.Deep.CondSized
namespace Go.Proofs.YtfghjfljomcldaaGreat
open Go.ChangeShapes Go.WideShapes Go.ChangeAt Go.RowKit
set_option linter.unusedVariables false

set_option maxRecDepth 100000 in
theorem aagain_contract (H : Type) (enc : TypeId × Value → H) (W : World) (base : Nat) (args : Array Value) (ds gs : List (DataW H)) (before : List MemPlace)
    (hval : ∀ (j : Nat) t v, Tryz.f9.params[j]? = some t → args[j]? = some v → Value.okWide Tryz.prog W .any base t v)
    (hW : DataW.Whole enc Tryz.prog Tryz.f9.params.toList Rows.aigAgainSpec.vars false W args.toList ds gs before) (hk : Rows.uptoSmall H (ds ++ gs) = true)
    (hsz : (DataW.weightsEach Tryz.prog (Tryz.f9.params.toList ++ Rows.aigAgainSpec.plain.varTypes Tryz.prog) (ds ++ gs)).all (· ≤ reachBytes) = true) :
    Calls Tryz.prog 9 args W fun e W' => ∃ v, e = .returned v ∧ Rows.aigAgainSpec.post enc Tryz.prog Tryz.f9 false true false false W args v W' := by
  have hW' := hW
  obtain ⟨p, q, hA0, hV, rfl, hfz, hnd⟩ := hW
  have hA : DataW.TrodAll enc Tryz.prog W 0 (fun _ => true) true Tryz.f9.params.toList args.toList ds p := hA0
  rw [Tryz.params9] at hA hval hsz
  obtain ⟨v0, vs0, d0, ds0, p0, q0, hargs, rfl, rfl, h0, r0⟩ := trodAll_cons hA
  obtain ⟨v1, vs1, d1, ds1, p1, q1, rfl, rfl, rfl, h1, r1⟩ := trodAll_cons r0
  obtain ⟨rfl, rfl, rfl⟩ := trodAll_nil r1
  obtain rfl : args = #[v0, v1] := by cases args; simp_all
  obtain ⟨rfl, rfl⟩ := trodVars_none hV
  have hbk : Rows.uptoBulkAll ([d0, d1] ++ ([] : List (DataW H))) ≤ 1048576 := of_decide_eq_true hk
  simp only [List.append_nil, Rows.uptoBulkAll] at hbk
  have k0 := h0
  have lt0 : ∀ x ∈ p0, x.block < W.heap.size := by obtain ⟨m, hm⟩ := k0; exact DataW.trod_lt m _ _ _ hm
  have hw0 : ∀ n ∈ d0.weights Tryz.prog 25, n ≤ 140737488351232 := fun n hn => by
    have := List.all_eq_true.1 hsz n (DataW.weights_mem_each (j := 0) (t := 25) (d := d0) rfl rfl n hn)
    exact (of_decide_eq_true this : n ≤ reachBytes)
  have k1 := h1
  have lt1 : ∀ x ∈ p1, x.block < W.heap.size := by obtain ⟨m, hm⟩ := k1; exact DataW.trod_lt m _ _ _ hm
  have hw1 : ∀ n ∈ d1.weights Tryz.prog 22, n ≤ 140737488351232 := fun n hn => by
    have := List.all_eq_true.1 hsz n (DataW.weights_mem_each (j := 1) (t := 22) (d := d1) rfl rfl n hn)
    exact (of_decide_eq_true this : n ≤ reachBytes)
  obtain ⟨gi0, ga0, I0, A0, rfl, HI0, HA0, hG0⟩ := graph_of (hval 0 25 v0 rfl rfl) h0 hw0
  obtain ⟨a1, n1, c1, rfl⟩ := okWide_slice Tryz.underlying22 (hval 1 22 v1 rfl rfl)
  obtain ⟨L1, HL1, hL1⟩ : ∃ l, IsInts W (.slice a1 n1 c1) l ∧ l.length ≤ Rows.uptoBulk d1 := by
    obtain ⟨fuel, hf⟩ := h1
    exact gintv_of hf hw1
  have walk := aigagain_any _ _ _ I0 A0 L1 W HI0 HA0 HL1 (by omega) (by omega) (by omega)
  clear hA0
  refine walk.mono fun e W' ⟨he, bel⟩ => ?_
  subst he
  exact ⟨_, rfl, _, _, _, [], _, [], hW', trodAll_mk1 (shut_bool Tryz.underlying4 _), (trodAll_cons_mk (Below.trod laidOut (by kernel_rfl) (of_decide_eq_true (by kernel_rfl)) k0 bel lt0) (trodAll_cons_mk (Below.trod laidOut (by kernel_rfl) (of_decide_eq_true (by kernel_rfl)) k1 bel lt1) trodAll_mk0)), rfl, bel.frame _, fun h => by cases h⟩

set_option maxRecDepth 100000 in
theorem aagain_lifted (os : Os) (started : os.Started) (H : Type) (enc : TypeId × Value → H) (F : Stop.Interp) :
    ReturnsInHanded {} Tryz.checked os 9 .any ((Rows.OpenSpec.upto Rows.aigAgainSpec).pre6 enc Tryz.prog Tryz.f9 Rows.aigAgainUptoRow.domain false) (((Rows.OpenSpec.upto Rows.aigAgainSpec).at F).post enc Tryz.prog Tryz.f9 false true false false) := by
  refine returnsInHanded_of_cond_sized (C := Tryz.checked) (s := Rows.OpenSpec.upto Rows.aigAgainSpec) (k := Rows.uptoSmall) rfl own started (by kernel_rfl) Tryz.func9
    (OpenSpec.witness (enc := enc) (C := Tryz.checked) (s := Rows.OpenSpec.upto Rows.aigAgainSpec) (k := Rows.uptoSmall) rfl false ⟨#[], #[.agg #[.slice none 0 0, .slice none 0 0], .slice none 0 0], []⟩ 8 (by kernel_rfl) (by kernel_rfl) (by kernel_rfl)
      (x := ([.agg [.nil, .nil], .nil], [], [])) (by kernel_rfl) rfl (by kernel_rfl)) ?_
  intro W base args ds gs before hval hW _ hk hsz _
  exact aagain_contract H enc W base args ds gs before hval hW hk hsz

set_option maxHeartbeats 0
theorem aigAgain_inpl : (Rows.aigAgainUptoRow.inPlace == Tryz.checked.prog.inPlace 9) = true := by kernel_rfl
theorem aigAgain_unfo : (Rows.aigAgainUptoRow.unfollowed == Tryz.checked.prog.unfollowed 9) = true := by kernel_rfl
theorem aigAgain_recu : (Rows.aigAgainUptoRow.recurses == Tryz.checked.prog.recurses 9) = true := by kernel_rfl
theorem aigAgain_vars : (Rows.aigAgainUptoRow.named == Tryz.checked.prog.varsNamed 9) = true := by kernel_rfl
theorem aigAgain_lift : (Rows.aigAgainUptoRow.lifted == Tryz.checked.prog.liftsFinal) = true := ag_lifted
theorem aigAgain_make : (Tryz.checked.prog.make == some Rows.aigAgainUptoRow.make) = true := ag_make
theorem aigAgain_keys : (Rows.aigAgainUptoRow.plainKeys == Tryz.checked.prog.plainKeys) = true := ag_keys
set_option maxRecDepth 100000 in
theorem aigAgain_facts : joinedFacts Tryz.checked.prog 9 Tryz.f9 (Rows.OpenSpec.upto Rows.aigAgainSpec).bare Rows.aigAgainUptoRow = true := by
  unfold joinedFacts
  repeat' (with_reducible refine and_both ?_ ?_)
  all_goals (first | with_reducible exact ag_laid | with_reducible exact ag_maps | with_reducible exact ag_heard | with_reducible exact ag_enter | with_reducible exact aigAgain_inpl | with_reducible exact aigAgain_unfo | with_reducible exact aigAgain_recu | with_reducible exact aigAgain_vars | with_reducible exact aigAgain_lift | with_reducible exact aigAgain_make | with_reducible exact aigAgain_keys | (as_aux_lemma => kernel_rfl))
theorem aigAgain_inst : Tryz.f9.isInstance Tryz.checked.prog Rows.aigAgainUptoRow.origin Rows.aigAgainUptoRow.targs := of_decide_eq_true (by kernel_rfl)
theorem aigAgain_wrap : Tryz.f9.isWrapper Tryz.checked.prog Rows.aigAgainUptoRow.wrapper Rows.aigAgainUptoRow.mainSum := by unfold Func.isWrapper; first | (rw [if_pos (by decide +kernel)]; kernel_rfl) | (rw [if_neg (by decide +kernel)]; exact ⟨rfl, rfl⟩)
theorem aigAgain_fn : Tryz.checked.prog.funcNamed Rows.aigAgainUptoRow.func = some 9 := by kernel_rfl
theorem aigAgain_upto : Rows.AigAgainUptoSaid :=
  OpenClaim.holds_of_cond 9 Tryz.f9 rfl rfl rfl rfl rfl rfl rfl ⟨rfl, rfl, rfl, rfl, rfl⟩ rfl rfl rfl rfl rfl aigAgain_fn Tryz.func9 aigAgain_facts aigAgain_inst aigAgain_wrap
    (fun os started H enc _ F => aagain_lifted os started H enc F)
end Go.Proofs.YtfghjfljomcldaaGreat
