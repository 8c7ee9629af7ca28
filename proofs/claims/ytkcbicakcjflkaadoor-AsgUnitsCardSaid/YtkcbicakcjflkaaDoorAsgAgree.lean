/- asg.Agree and the reference's. -/
import Derived.Test.YtkcbicakcjflkaaDoorAsgVal
import Derived.Test.YtkcbicakcjflkaaDoorMgG
namespace Go.Proofs.YtkcbicakcjflkaaDoor
open Go.RowKit
set_option linter.unusedVariables false

def agreeB (a b : List Int) : Bool := (joinR a b).2 == 0

set_option maxHeartbeats 400000 in
set_option maxRecDepth 100000 in
theorem agree_any (v u : Value) (l m : List Int) (w : World) (H : IsInts w v l) (K : IsInts w u m) (hlen : l.length + m.length ≤ 17592186044416) :
    Calls Tryd.prog 19 #[v, u] w fun e w' => e = .returned (.bool (agreeB l m)) ∧ Below w.heap.size w w' := by
  have HA : Hid (agreeB l m = ((joinL l m).2 == 0)) := by show _ = _; unfold agreeB; rw [joinL_eq]
  obtain ⟨a, cap, rfl⟩ := H.shape
  obtain ⟨a2, cap2, rfl⟩ := K.shape
  go_enter Tryd.func19, Tryd.ntmps19
  go_wp2_with (go_at_call 38; refine (join_any _ _ l m _ H K hlen).mono ?_; rintro e w1 ⟨v1, rfl, hv1, hb1⟩)
  go_ret
  exact ⟨ret_bool (by rw [HA.out]), hb1⟩

set_option maxHeartbeats 400000 in
set_option maxRecDepth 100000 in
theorem ragree_any (v u : Value) (l m : List Int) (w : World) (H : IsInts w v l) (K : IsInts w u m) (hlen : l.length + m.length ≤ 17592186044416) :
    Calls Tryd.prog 20 #[v, u] w fun e w' => e = .returned (.bool (agreeB l m)) ∧ Below w.heap.size w w' := by
  have HA : Hid (agreeB l m = ((joinR l m).2 == 0)) := rfl
  obtain ⟨a, cap, rfl⟩ := H.shape
  obtain ⟨a2, cap2, rfl⟩ := K.shape
  go_enter Tryd.func20, Tryd.ntmps20
  go_wp2_with (go_at_call 51; refine (rjoin_any _ _ l m _ H K hlen).mono ?_; rintro e w1 ⟨v1, rfl, hv1, hb1⟩)
  go_ret
  exact ⟨ret_bool (by rw [HA.out]), hb1⟩

end Go.Proofs.YtkcbicakcjflkaaDoor
