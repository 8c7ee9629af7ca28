/- Proved: the law AsgBack returns true for every two lists of integers and every two numbers of 64 bits, and its arguments read behind the call as before. Condition: the listed package variable reads as the program's text lays it (the card ties it); it speaks of the pruned copy of the program. -/
import Derived.Test.YtmhjpbhldaagmaaDoorFrameZ
import Derived.Test.YtmhjpbhldaagmaaDoorBackW
import Derived.Test.YtmhjpbhldaagmaaDoorCards
import Derived.Test.YtmhjpbhldaagmaaDoorTie
import Derived.SevenTiedAt
namespace Go.Proofs.YtmhjpbhldaagmaaDoor
open Go.ChangeShapes Go.WideShapes Go.ChangeAt Go.RowKit
set_option linter.unusedVariables false

set_option maxRecDepth 100000 in
theorem backa_lifted (os : Os) (started : os.Started) (H : Type) (enc : TypeId × Value → H) :
    ReturnsInHanded {} Tryd.checked os 5 .any (fun w args => (Rows.asgBackSpec.pre enc Tryd.prog Tryd.f5 [] false w args ∧ laidMetH Tryd.prog laidZ w) ∧ sizedMet enc Tryd.prog Tryd.f5 (OpenSpec.ofChange Rows.asgBackSpec) false w args)
      (Rows.asgBackSpec.post enc Tryd.prog Tryd.f5 false true false false) := by
  refine returnsInHanded_of_change_and (C := Tryd.checked) (X := fun w _ => laidMetH Tryd.prog laidZ w) (fun _ _ _ hh h => h.of_heap hh) own started (by kernel_rfl) Tryd.func5
    (ChangeSpec.witness_shaped (enc := enc) (C := Tryd.checked) (os := os) (X := fun w _ => laidMetH Tryd.prog laidZ w) false (World.doorLaid Tryd.prog 28 os) #[.slice none 0 0, .slice none 0 0, .int .u64 0, .int .u64 0] 8 rfl (World.shaped_of_RefB (by kernel_rfl) (by kernel_rfl)) (by kernel_rfl) (by kernel_rfl) (by kernel_rfl) (door_metz os _)) ?_
  intro W base args ds gs before hval0 hW _ hsz0 hL _
  have hval : ∀ (j : Nat) t v, Tryd.f5.params[j]? = some t → args[j]? = some v → Value.okWide Tryd.prog W .any base t v := hval0
  have hsz : (DataW.weightsEach Tryd.prog (Tryd.f5.params.toList ++ Rows.asgBackSpec.plain.varTypes Tryd.prog) (ds ++ gs)).all (· ≤ reachBytes) = true := hsz0
  have hW' := hW
  obtain ⟨p, q, hA0, hV, rfl, hfz, hnd⟩ := hW
  have hA : DataW.TrodAll enc Tryd.prog W 0 (fun _ => true) true Tryd.f5.params.toList args.toList ds p := hA0
  rw [Tryd.params5] at hA hval hsz
  obtain ⟨v0, vs0, d0, ds0, p0, q0, hargs, rfl, rfl, h0, r0⟩ := trodAll_cons hA
  obtain ⟨v1, vs1, d1, ds1, p1, q1, rfl, rfl, rfl, h1, r1⟩ := trodAll_cons r0
  obtain ⟨v2, vs2, d2, ds2, p2, q2, rfl, rfl, rfl, h2, r2⟩ := trodAll_cons r1
  obtain ⟨v3, vs3, d3, ds3, p3, q3, rfl, rfl, rfl, h3, r3⟩ := trodAll_cons r2
  obtain ⟨rfl, rfl, rfl⟩ := trodAll_nil r3
  obtain rfl : args = #[v0, v1, v2, v3] := by cases args; simp_all
  obtain ⟨rfl, rfl⟩ := trodVars_none hV
  obtain ⟨a0, n0, c0, rfl⟩ := okWide_slice Tryd.underlying23 (hval 0 23 v0 rfl rfl)
  obtain ⟨a1, n1, c1, rfl⟩ := okWide_slice Tryd.underlying23 (hval 1 23 v1 rfl rfl)
  have k0 := h0
  have k1 := h1
  have lt0 : ∀ x ∈ p0, x.block < W.heap.size := by obtain ⟨m, hm⟩ := k0; exact DataW.trod_lt m _ _ _ hm
  have lt1 : ∀ x ∈ p1, x.block < W.heap.size := by obtain ⟨m, hm⟩ := k1; exact DataW.trod_lt m _ _ _ hm
  have hw0 : ∀ n ∈ d0.weights Tryd.prog 23, n ≤ 140737488351232 := fun n hn => by
    have := List.all_eq_true.1 hsz n (DataW.weights_mem_each (j := 0) (t := 23) (d := d0) rfl rfl n hn)
    exact (of_decide_eq_true this : n ≤ reachBytes)
  have hw1 : ∀ n ∈ d1.weights Tryd.prog 23, n ≤ 140737488351232 := fun n hn => by
    have := List.all_eq_true.1 hsz n (DataW.weights_mem_each (j := 1) (t := 23) (d := d1) rfl rfl n hn)
    exact (of_decide_eq_true this : n ≤ reachBytes)
  obtain ⟨x, rfl, rfl, rfl, wx⟩ := open_int Tryd.underlying42 (hval 2 42 v2 rfl rfl) h2
  have bx : 0 ≤ x ∧ x ≤ 18446744073709551615 := by
    have := Go.Extern.FmtText.int_bounds wx
    simpa [IntKind.min, IntKind.max, IntKind.signed, IntKind.bits] using this
  obtain ⟨x, rfl⟩ := Int.eq_ofNat_of_zero_le bx.1
  obtain ⟨y, rfl, rfl, rfl, wy⟩ := open_int Tryd.underlying42 (hval 3 42 v3 rfl rfl) h3
  have by' : 0 ≤ y ∧ y ≤ 18446744073709551615 := by
    have := Go.Extern.FmtText.int_bounds wy
    simpa [IntKind.min, IntKind.max, IntKind.signed, IntKind.bits] using this
  obtain ⟨y, rfl⟩ := Int.eq_ofNat_of_zero_le by'.1
  have hS := of_laidz hL
  obtain ⟨l, hl, H⟩ : ∃ l, l.length = n0 ∧ IsInts W (.slice a0 n0 c0) l := by
    obtain ⟨fuel, hf⟩ := h0
    exact ints_sized hf hw0
  obtain ⟨m, hm, K⟩ : ∃ l, l.length = n1 ∧ IsInts W (.slice a1 n1 c1) l := by
    obtain ⟨fuel, hf⟩ := h1
    exact ints_sized hf hw1
  have walk : Calls Tryd.prog 5 #[.slice a0 n0 c0, .slice a1 n1 c1, .int .u64 x, .int .u64 y] W (fun e w' => e = .returned (.bool true) ∧ Below W.heap.size W w') := by
    by_cases hbig : 200 < n0 ∨ 200 < n1
    · exact back_big _ _ _ _ _ _ x y W hS hbig (by have := H.len; omega) (by have := K.len; omega)
    · exact back_small _ _ l m x y W hS H K (by omega) (by omega) (by omega) (by omega)
  clear hA0 hval0
  refine walk.mono fun e W' ⟨he, bel⟩ => ?_
  subst he
  exact ⟨_, rfl, _, _, _, [], _, [], hW', trodAll_mk1 (shut_bool Tryd.underlying4 _), (trodAll_cons_mk (Below.trod laidOut (by kernel_rfl) (of_decide_eq_true (by kernel_rfl)) k0 bel lt0) (trodAll_cons_mk (Below.trod laidOut (by kernel_rfl) (of_decide_eq_true (by kernel_rfl)) k1 bel lt1) (trodAll_cons_mk (shut_int Tryd.underlying42 wx) (trodAll_cons_mk (shut_int Tryd.underlying42 wy) trodAll_mk0)))), rfl, bel.frame _, fun h => by cases h⟩

theorem asgBack_said : Rows.AsgBackSaid :=
  OpenClaim.holds_of_wide 5 Tryd.f5 rfl rfl rfl rfl rfl rfl rfl ⟨rfl, rfl, rfl, rfl, rfl⟩ rfl rfl rfl rfl rfl (by kernel_rfl) Tryd.func5 (by kernel_rfl)
    (of_decide_eq_true (by kernel_rfl)) (by unfold Func.isWrapper; first | (rw [if_pos (by decide +kernel)]; kernel_rfl) | (rw [if_neg (by decide +kernel)]; exact ⟨rfl, rfl⟩))
    (fun os started H enc _ => backa_lifted os started H enc)

theorem asgBack_holds : Rows.AsgBackCardSaid :=
  Claim7.holds_tied_plain_at .later [] [.funcs] true Rows.asgBackCard.stood.harness Rows.asgBackCard.stood.looks
    asgBack_said (fun _ h => by cases h) (by kernel_rfl) (fun _ h => by cases h) asgBack_row_tie rfl ⟨rfl, rfl⟩ (by kernel_rfl) rfl
    (fun f fn hf hfn => by
      obtain rfl : f = 5 := Option.some.inj ((show Tryd.prog.funcNamed "skolem/skolemlaw02.AsgBack" = some 5 by kernel_rfl).symm.trans hf) |>.symm
      obtain rfl : fn = Tryd.f5 := (Option.some.inj (Tryd.func5.symm.trans hfn)).symm
      exact ⟨by kernel_rfl, fun j t ht => by
        rw [Tryd.params5] at ht
        have hm : t ∈ [23, 23, 42, 42] := by simpa using Array.mem_of_getElem? ht
        have hall : ([23, 23, 42, 42].all fun u => !Tryd.prog.wantsStandIn u) = true := by kernel_rfl
        exact (show Tryd.prog.wantsStandIn t = false by simpa using List.all_eq_true.1 hall t hm)⟩)
    (by kernel_rfl)

end Go.Proofs.YtmhjpbhldaagmaaDoor
