/- slices.ContainsFunc over lists of lists, with the function that LitsOrders hands to it. -/
import Derived.Test.YtnedpngadfkmiaaDoorLawLib
import Derived.Test.YtnedpngadfkmiaaDoorRSort
namespace Go.Proofs.YtnedpngadfkmiaaDoor
open Go.RowKit
set_option linter.unusedVariables false

/-- The function that is handed over tells p of a list, and draws at most. -/
def TellsL (P : Program) (g : Nat) (cb : Array Value) (p : List Int → Bool) (w : World) : Prop :=
  ∀ W u x, Quiet w W → IsInts W u x → Calls P g (#[u] ++ cb) W fun e w' => e = .returned (.bool (p x)) ∧ Quiet W w'

def IdxL (p : List Int → Bool) (ls : List (List Int)) (w : World) (e : Ending) (w' : World) : Prop := ∃ r : Int, e = .returned (.int .i64 r) ∧ Quiet w w' ∧ (0 ≤ r ↔ ∃ x ∈ ls, p x = true)

set_option maxHeartbeats 800000 in
set_option maxRecDepth 100000 in
theorem indexf_any (p : List Int → Bool) (g : Nat) (cb : Array Value) (v : Value) (ls : List (List Int)) (w : World)
    (eg : ∀ args w, (callFunc g args).run Tryd.prog w = .ok (.enter g args) w) (ht : TellsL Tryd.prog g cb p w) (H : IsRows w v ls) :
    Calls Tryd.prog 113 #[v, .func (.func g) #[] cb] w (IdxL p ls w) := by
  obtain ⟨a, cap, rfl, hl⟩ := H.shape
  have HTE := Lib.hid ht
  clear ht
  go_enter Tryd.func113, Tryd.ntmps113
  go_wp2
  go_loopw [8] (fun i wr => ∃ k : Nat, k ≤ ls.length ∧ i = .int .i64 k ∧ Quiet w wr ∧ ∀ x ∈ ls.take k, p x = false) (fun i _ => ls.length - (intOf i).toNat)
  case atStart => exact ⟨0, Nat.zero_le _, rfl, Quiet.refl _, by simp⟩
  case round =>
    obtain ⟨k, hk, rfl, hq, hn⟩ := hrel
    have HN := Lib.hid hn
    clear hn
    by_cases hlt : k < ls.length
    · obtain ⟨b, off, u, rfl, hb, hu0, HU0⟩ := H.at hlt
      have hu := (hq.cell _).trans hu0
      have HU := HU0.quiet hq
      have HMEM := Lib.hid (rows_getD_mem hlt)
      have HFA := Lib.hid (rows_forall_take_succ (p := fun x => p x = false) hlt HN.out)
      have hc := HTE.out wr u _ hq HU
      generalize ls.getD k [] = x at *
      obtain ⟨ua, uc, rfl⟩ := HU.shape
      cases hp : p x
      · have HP := Lib.hid (HFA.out hp)
        rw [hp] at hc
        clear hp
        go_wp2_with fail
        refine hc.mono ?_
        rintro e w1 ⟨rfl, hq1⟩
        go_wp2
        go_roundw
        case rel => exact ⟨k + 1, by omega, by go_num, hq.trans hq1, HP.out⟩
        case measure => simp [intOf]; omega
      · have HP : Hid (∃ x ∈ ls, p x = true) := Lib.hid ⟨x, HMEM.out, hp⟩
        rw [hp] at hc
        clear hp
        go_wp2_with fail
        refine hc.mono ?_
        rintro e w1 ⟨rfl, hq1⟩
        go_wp2
        go_ret
        exact ⟨k, rfl, hq.trans hq1, fun _ => HP.out, fun _ => by omega⟩
    · have HP : Hid (¬ ∃ x ∈ ls, p x = true) := by
        intro ⟨x, hx, h⟩
        have := HN.out x (by rw [List.take_of_length_le (by omega)]; exact hx)
        rw [this] at h; cases h
      go_wp2
      go_ret
      exact ⟨-1, rfl, hq, fun h => by omega, fun h => absurd h HP.out⟩

def ContL (p : List Int → Bool) (ls : List (List Int)) (w : World) (e : Ending) (w' : World) : Prop := ∃ c : Bool, e = .returned (.bool c) ∧ Quiet w w' ∧ (c = true ↔ ∃ x ∈ ls, p x = true)

set_option maxHeartbeats 800000 in
set_option maxRecDepth 100000 in
theorem containsf_any (p : List Int → Bool) (g : Nat) (cb : Array Value) (v : Value) (ls : List (List Int)) (w : World)
    (eg : ∀ args w, (callFunc g args).run Tryd.prog w = .ok (.enter g args) w) (ht : TellsL Tryd.prog g cb p w) (H : IsRows w v ls) :
    Calls Tryd.prog 58 #[v, .func (.func g) #[] cb] w (ContL p ls w) := by
  have hc := indexf_any p g cb v ls w eg ht H
  go_enter Tryd.func58, Tryd.ntmps58
  go_wp2_with fail
  refine hc.mono ?_
  rintro e w1 ⟨r, rfl, hq1, hr⟩
  have HR := Lib.hid hr
  clear hr
  go_wp2
  go_ret
  exact ⟨_, rfl, hq1, by rw [decide_eq_true_eq]; exact HR.out⟩

set_option maxHeartbeats 400000 in
set_option maxRecDepth 100000 in
theorem ordc_any (u ul : Value) (x l : List Int) (b : Nat) (w : World) (hS : SameAt w) (hv : w.cell? ⟨b, 0, none⟩ = some ul) (H : IsInts w u x) (K : IsInts w ul l) :
    Calls Tryd.prog 59 #[u, .pointer (some ⟨b, 0, none⟩)] w fun e w' => e = .returned (.bool (sameB x l)) ∧ Quiet w w' := by
  have hg : w.cell? ⟨0, 0, none⟩ = _ := hS
  have hc := same_any u ul x l w H K
  generalize sameB x l = c at *
  obtain ⟨ua, uc, rfl⟩ := H.shape
  obtain ⟨la, lc, rfl⟩ := K.shape
  have HC := Lib.hid hc
  clear hc
  go_enter Tryd.func59, Tryd.ntmps59
  go_wp2_with fail
  refine HC.out.mono ?_
  rintro e w1 ⟨rfl, hq1⟩
  go_wp2
  go_ret
  exact ⟨rfl, hq1⟩

theorem ordc_enters (args : Array Value) (w : World) : (callFunc 59 args).run Tryd.prog w = .ok (.enter 59 args) w := enters_of Tryd.func59 (by kernel_rfl) rfl args w
theorem ordc_tells (ul : Value) (l : List Int) (b : Nat) (w : World) (hS : SameAt w) (hv : w.cell? ⟨b, 0, none⟩ = some ul) (K : IsInts w ul l) :
    TellsL Tryd.prog 59 #[.pointer (some ⟨b, 0, none⟩)] (fun x => sameB x l) w := fun W u x hq H =>
  ordc_any u ul x l b W (by unfold SameAt at hS ⊢; rw [hq.cell]; exact hS) ((hq.cell _).trans hv) H (K.quiet hq)

end Go.Proofs.YtnedpngadfkmiaaDoor
