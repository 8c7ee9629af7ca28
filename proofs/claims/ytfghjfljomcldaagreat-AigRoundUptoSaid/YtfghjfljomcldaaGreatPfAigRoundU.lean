/- Proved: the law AigRound returns true for every net and list of integers that are together of bulk at most 1048576 (the small form), and its arguments read behind the call as before. -/
import Derived.Test.YtfghjfljomcldaaGreatAgOpenN
import Derived.Test.YtfghjfljomcldaaGreatAgLawRnd
import Derived.Test.YtfghjfljomcldaaGreatAgFacts
import Derived.SevenTiedAt
import Derived.JoinedCond
import Derived.Deep.CondSized
namespace Go.Proofs.YtfghjfljomcldaaGreat
open Go.ChangeShapes Go.WideShapes Go.ChangeAt Go.RowKit
set_option linter.unusedVariables false

set_option maxRecDepth 100000 in
theorem around_contract (H : Type) (enc : TypeId × Value → H) (W : World) (base : Nat) (args : Array Value) (ds gs : List (DataW H)) (before : List MemPlace)
    (hval : ∀ (j : Nat) t v, Tryz.f10.params[j]? = some t → args[j]? = some v → Value.okWide Tryz.prog W .any base t v)
    (hW : DataW.Whole enc Tryz.prog Tryz.f10.params.toList Rows.aigRoundSpec.vars false W args.toList ds gs before) (hk : Rows.uptoSmall H (ds ++ gs) = true)
    (hsz : (DataW.weightsEach Tryz.prog (Tryz.f10.params.toList ++ Rows.aigRoundSpec.plain.varTypes Tryz.prog) (ds ++ gs)).all (· ≤ reachBytes) = true) :
    Calls Tryz.prog 10 args W fun e W' => ∃ v, e = .returned v ∧ Rows.aigRoundSpec.post enc Tryz.prog Tryz.f10 false true false false W args v W' := by
  have hW' := hW
  obtain ⟨p, q, hA0, hV, rfl, hfz, hnd⟩ := hW
  have hA : DataW.TrodAll enc Tryz.prog W 0 (fun _ => true) true Tryz.f10.params.toList args.toList ds p := hA0
  rw [Tryz.params10] at hA hval hsz
  obtain ⟨v0, vs0, d0, ds0, p0, q0, hargs, rfl, rfl, h0, r0⟩ := trodAll_cons hA
  obtain ⟨v1, vs1, d1, ds1, p1, q1, rfl, rfl, rfl, h1, r1⟩ := trodAll_cons r0
  obtain ⟨rfl, rfl, rfl⟩ := trodAll_nil r1
  obtain rfl : args = #[v0, v1] := by cases args; simp_all
  obtain ⟨rfl, rfl⟩ := trodVars_none hV
  have hbk : Rows.uptoBulkAll ([d0, d1] ++ ([] : List (DataW H))) ≤ 1048576 := of_decide_eq_true hk
  simp only [List.append_nil, Rows.uptoBulkAll] at hbk
  have k0 := h0
  have lt0 : ∀ x ∈ p0, x.block < W.heap.size := by obtain ⟨m, hm⟩ := k0; exact DataW.trod_lt m _ _ _ hm
  have hw0 : ∀ n ∈ d0.weights Tryz.prog 98, n ≤ 140737488351232 := fun n hn => by
    have := List.all_eq_true.1 hsz n (DataW.weights_mem_each (j := 0) (t := 98) (d := d0) rfl rfl n hn)
    exact (of_decide_eq_true this : n ≤ reachBytes)
  have k1 := h1
  have lt1 : ∀ x ∈ p1, x.block < W.heap.size := by obtain ⟨m, hm⟩ := k1; exact DataW.trod_lt m _ _ _ hm
  have hw1 : ∀ n ∈ d1.weights Tryz.prog 22, n ≤ 140737488351232 := fun n hn => by
    have := List.all_eq_true.1 hsz n (DataW.weights_mem_each (j := 1) (t := 22) (d := d1) rfl rfl n hn)
    exact (of_decide_eq_true this : n ≤ reachBytes)
  obtain ⟨np0, ng0, o0, P0, G0, rfl, HP0, HG0, ho0, hN0⟩ := net_of (hval 0 98 v0 rfl rfl) h0 hw0
  obtain ⟨a1, n1, c1, rfl⟩ := okWide_slice Tryz.underlying22 (hval 1 22 v1 rfl rfl)
  obtain ⟨L1, HL1, hL1⟩ : ∃ l, IsInts W (.slice a1 n1 c1) l ∧ l.length ≤ Rows.uptoBulk d1 := by
    obtain ⟨fuel, hf⟩ := h1
    exact intv_of hf hw1
  have walk := aiground_any _ _ _ o0 P0 G0 L1 W HP0 HG0 HL1 (by omega) (by omega) (by omega) (by omega) ho0.1 ho0.2
  clear hA0
  refine walk.mono fun e W' ⟨he, bel⟩ => ?_
  subst he
  exact ⟨_, rfl, _, _, _, [], _, [], hW', trodAll_mk1 (shut_bool Tryz.underlying4 _), (trodAll_cons_mk (Below.trod laidOut (by kernel_rfl) (of_decide_eq_true (by kernel_rfl)) k0 bel lt0) (trodAll_cons_mk (Below.trod laidOut (by kernel_rfl) (of_decide_eq_true (by kernel_rfl)) k1 bel lt1) trodAll_mk0)), rfl, bel.frame _, fun h => by cases h⟩

set_option maxRecDepth 100000 in
theorem around_lifted (os : Os) (started : os.Started) (H : Type) (enc : TypeId × Value → H) (F : Stop.Interp) :
    ReturnsInHanded {} Tryz.checked os 10 .any ((Rows.OpenSpec.upto Rows.aigRoundSpec).pre6 enc Tryz.prog Tryz.f10 Rows.aigRoundUptoRow.domain false) (((Rows.OpenSpec.upto Rows.aigRoundSpec).at F).post enc Tryz.prog Tryz.f10 false true false false) := by
  refine returnsInHanded_of_cond_sized (C := Tryz.checked) (s := Rows.OpenSpec.upto Rows.aigRoundSpec) (k := Rows.uptoSmall) rfl own started (by kernel_rfl) Tryz.func10
    (OpenSpec.witness (enc := enc) (C := Tryz.checked) (s := Rows.OpenSpec.upto Rows.aigRoundSpec) (k := Rows.uptoSmall) rfl false ⟨#[], #[.agg #[.slice none 0 0, .slice none 0 0, .int .i64 0], .slice none 0 0], []⟩ 8 (by kernel_rfl) (by kernel_rfl) (by kernel_rfl)
      (x := ([.agg [.nil, .nil, .lit (.int .i64 0)], .nil], [], [])) (by kernel_rfl) rfl (by kernel_rfl)) ?_
  intro W base args ds gs before hval hW _ hk hsz _
  exact around_contract H enc W base args ds gs before hval hW hk hsz

set_option maxHeartbeats 0
theorem aigRound_inpl : (Rows.aigRoundUptoRow.inPlace == Tryz.checked.prog.inPlace 10) = true := by kernel_rfl
theorem aigRound_unfo : (Rows.aigRoundUptoRow.unfollowed == Tryz.checked.prog.unfollowed 10) = true := by kernel_rfl
theorem aigRound_recu : (Rows.aigRoundUptoRow.recurses == Tryz.checked.prog.recurses 10) = true := by kernel_rfl
theorem aigRound_vars : (Rows.aigRoundUptoRow.named == Tryz.checked.prog.varsNamed 10) = true := by kernel_rfl
theorem aigRound_lift : (Rows.aigRoundUptoRow.lifted == Tryz.checked.prog.liftsFinal) = true := ag_lifted
theorem aigRound_make : (Tryz.checked.prog.make == some Rows.aigRoundUptoRow.make) = true := ag_make
theorem aigRound_keys : (Rows.aigRoundUptoRow.plainKeys == Tryz.checked.prog.plainKeys) = true := ag_keys
set_option maxRecDepth 100000 in
theorem aigRound_facts : joinedFacts Tryz.checked.prog 10 Tryz.f10 (Rows.OpenSpec.upto Rows.aigRoundSpec).bare Rows.aigRoundUptoRow = true := by
  unfold joinedFacts
  repeat' (with_reducible refine and_both ?_ ?_)
  all_goals (first | with_reducible exact ag_laid | with_reducible exact ag_maps | with_reducible exact ag_heard | with_reducible exact ag_enter | with_reducible exact aigRound_inpl | with_reducible exact aigRound_unfo | with_reducible exact aigRound_recu | with_reducible exact aigRound_vars | with_reducible exact aigRound_lift | with_reducible exact aigRound_make | with_reducible exact aigRound_keys | (as_aux_lemma => kernel_rfl))
theorem aigRound_inst : Tryz.f10.isInstance Tryz.checked.prog Rows.aigRoundUptoRow.origin Rows.aigRoundUptoRow.targs := of_decide_eq_true (by kernel_rfl)
theorem aigRound_wrap : Tryz.f10.isWrapper Tryz.checked.prog Rows.aigRoundUptoRow.wrapper Rows.aigRoundUptoRow.mainSum := by unfold Func.isWrapper; first | (rw [if_pos (by decide +kernel)]; kernel_rfl) | (rw [if_neg (by decide +kernel)]; exact ⟨rfl, rfl⟩)
theorem aigRound_fn : Tryz.checked.prog.funcNamed Rows.aigRoundUptoRow.func = some 10 := by kernel_rfl
theorem aigRound_upto : Rows.AigRoundUptoSaid :=
  OpenClaim.holds_of_cond 10 Tryz.f10 rfl rfl rfl rfl rfl rfl rfl ⟨rfl, rfl, rfl, rfl, rfl⟩ rfl rfl rfl rfl rfl aigRound_fn Tryz.func10 aigRound_facts aigRound_inst aigRound_wrap
    (fun os started H enc _ F => around_lifted os started H enc F)
end Go.Proofs.YtfghjfljomcldaaGreat
