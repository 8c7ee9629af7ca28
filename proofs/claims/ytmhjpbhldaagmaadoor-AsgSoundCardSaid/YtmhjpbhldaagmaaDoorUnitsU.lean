/- asg.Units. -/
import Derived.Test.YtmhjpbhldaagmaaDoorUnitsB
import Derived.Test.YtmhjpbhldaagmaaDoorUnitsW
namespace Go.Proofs.YtmhjpbhldaagmaaDoor
open Go.RowKit
set_option linter.unusedVariables false

set_option maxHeartbeats 1600000 in
set_option maxRecDepth 100000 in
theorem units_any (vf va : Value) (f : List (List Int)) (a : List Int) (w : World) (HR : IsRows w vf f) (HA : IsInts w va a) :
    Calls Tryd.prog 9 #[vf, va] w (UnitsPost w f a) := by
  have hmay := may_v va a w HA
  have hcnf := maycnf_any vf f w HR
  obtain ⟨av, cap, rfl, hfl⟩ := HR.shape
  have HRR := Lib.hid HR
  have HAA := Lib.hid HA
  by_cases hm : mayB a = true
  · by_cases hc : mayCnfB f = true
    · rw [hm] at hmay
      rw [hc] at hcnf
      have HM := Lib.hid hmay
      have HC := Lib.hid hcnf
      have hal := may_len (p := 0) (by decide) hm
      have HB := Lib.hid (begin_any w av cap va f a (fine_of hc) HR HA (mayB_mem hm) (by omega) (cnf_tot hc))
      have HMM := Lib.hid hm
      have HCC := Lib.hid hc
      clear hm hc hmay hcnf HR HA
      go_enter Tryd.func9, Tryd.ntmps9
      go_wp2_with (first
        | (go_at_call 32; refine HM.out.mono ?_; rintro e w1 ⟨rfl, rfl⟩)
        | (go_at_call 33; refine HC.out.mono ?_; rintro e w1 ⟨rfl, rfl⟩)
        | (go_at_call 34; refine HB.out.mono ?_; rintro e w2 ⟨vw, left, wait, rfl, hps, hbi, hbel⟩; have hud := hbi.done (may_cons HMM.out); have HRun := Lib.hid (run_any w.heap.size w w2 av cap vw a.length (tot f) left wait f a (fine_of HCC.out) hps hud.1 (by omega) HRR.out rfl hbel (by have := cnf_tot HCC.out; omega) (by omega)); clear hps hbi hud)
        | (go_at_call 35; refine HRun.out.mono ?_; rintro e w3 ⟨v, l, c, rfl, hr, hos, hll, hpl, hb3⟩; have HFN : Hid (UnitsPost w f a (.returned (.tuple #[v, .int .i64 c, .int .i64 0])) w3) := ⟨v, l, c, 0, rfl, hos.steps (by have := (fine_of HCC.out).len; omega) hpl, hb3, Or.inl ⟨HMM.out, HCC.out, rfl, hr, hll⟩⟩; clear hr hos hll hpl hb3))
      go_ret3
      exact HFN.out
    · have hc' : mayCnfB f = false := by simpa using hc
      rw [hm] at hmay
      rw [hc'] at hcnf
      have HM := Lib.hid hmay
      have HC := Lib.hid hcnf
      have HFN : Hid (UnitsPost w f a (.returned (.tuple #[.slice none 0 0, .int .i64 (-1), .int .i64 2])) w) := ⟨_, [], -1, 2, rfl, IsSteps.nil w, Below.refl _ _, Or.inr ⟨fun h => hc h.2, rfl, rfl, rfl⟩⟩
      clear hm hc hc' hmay hcnf HR HA
      go_enter Tryd.func9, Tryd.ntmps9
      go_wp2_with (first
        | (go_at_call 32; refine HM.out.mono ?_; rintro e w1 ⟨rfl, rfl⟩)
        | (go_at_call 33; refine HC.out.mono ?_; rintro e w1 ⟨rfl, rfl⟩))
      go_ret3
      exact HFN.out
  · have hm' : mayB a = false := by simpa using hm
    rw [hm'] at hmay
    have HM := Lib.hid hmay
    have HFN : Hid (UnitsPost w f a (.returned (.tuple #[.slice none 0 0, .int .i64 (-1), .int .i64 2])) w) := ⟨_, [], -1, 2, rfl, IsSteps.nil w, Below.refl _ _, Or.inr ⟨fun h => hm h.1, rfl, rfl, rfl⟩⟩
    clear hm hm' hmay hcnf HR HA
    go_enter Tryd.func9, Tryd.ntmps9
    go_wp2_with (go_at_call 32; refine HM.out.mono ?_; rintro e w1 ⟨rfl, rfl⟩)
    go_ret3
    exact HFN.out

end Go.Proofs.YtmhjpbhldaagmaaDoor
