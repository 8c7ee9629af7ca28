/- The reference's decides and Units. -/
import Derived.Test.YtkcbicakcjflkaaDoorUnitsSt
import Derived.Test.YtkcbicakcjflkaaDoorUnitsR
import Derived.Test.YtkcbicakcjflkaaDoorMgB
import Derived.Deep.LoopGhost
namespace Go.Proofs.YtkcbicakcjflkaaDoor
open Go.RowKit
set_option linter.unusedVariables false

def DecRes (f : List (List Int)) (a : List Int) (r : Int) : Prop := (∃ i : Nat, r = i ∧ firstC f a i) ∨ (r = -1 ∧ ∀ i, i < f.length → ¬ decC a (f.getD i []))

set_option maxHeartbeats 1600000 in
set_option maxRecDepth 100000 in
theorem rdecides_any (vf va : Value) (f : List (List Int)) (a : List Int) (w : World) (HR : IsRows w vf f) (HA : IsInts w va a) (ha : mayB a = true) (hc : ∀ c ∈ f, mayB c = true) :
    Calls Tryd.prog 63 #[vf, va] w (fun e w' => ∃ r : Int, e = .returned (.int .i64 r) ∧ Below w.heap.size w w' ∧ DecRes f a r) := by
  obtain ⟨av, cap, rfl, hfl⟩ := HR.shape
  obtain ⟨aa, ca, rfl⟩ := HA.shape
  have HRR := Lib.hid HR
  have HAA := Lib.hid HA
  have HMA := Lib.hid ha
  have HMC := Lib.hid hc
  clear HR HA ha hc
  go_enter Tryd.func63, Tryd.ntmps63
  go_wp2
  go_loopw [5] (fun si wr => ∃ k : Nat, k ≤ f.length ∧ si = .int .i64 k ∧ Below w.heap.size w wr ∧ ∀ j, j < k → ¬ decC a (f.getD j [])) (fun si wr => f.length - (intOf si).toNat)
  case atStart => exact ⟨0, Nat.zero_le _, rfl, Below.refl _ _, fun j h => by omega⟩
  case round =>
    obtain ⟨k, hk, rfl, hbel, hno⟩ := hrel
    have hsz := hbel.size
    have HNO := Lib.hid hno
    clear hno
    by_cases hlt : k < f.length
    · obtain ⟨b, off, u, rfl, hbk, hu, HU⟩ := HRR.out.at hlt
      have hcm := HMC.out _ (rows_getD_mem hlt)
      have hdec := decB_iff HMA.out hcm
      have hu1 := (hbel.cell (p := ⟨b, off + k, none⟩) hbk).trans hu
      obtain ⟨ac, cc, rfl⟩ := HU.shape
      have HU1 := HU.below hbel (Nat.le_refl _)
      have HA1 := HAA.out.below hbel (Nat.le_refl _)
      have HCl := Lib.hid (rclause_any _ _ a (f.getD k []) wr HA1 HU1)
      have HRe := Lib.hid (fun (W : World) (hq : Quiet wr W) => rrest_any _ _ a (f.getD k []) W (HA1.quiet hq) (HU1.quiet hq))
      have HB := Lib.hid hbel
      have HD := Lib.hid hdec
      have hcl : (f.getD k []).length ≤ 17592186044416 := HU.len
      have hnext : ¬ decC a (f.getD k []) → ∀ j, j < k + 1 → ¬ decC a (f.getD j []) := fun h j hj => by
        by_cases e : j = k
        · rw [e]; exact h
        · exact HNO.out j (by omega)
      have HX := Lib.hid hnext
      have hrl : (restL a (f.getD k [])).length ≤ (f.getD k []).length := List.length_filter_le _ _
      clear hu HU HU1 HA1 hbel hdec hcm hnext
      unfold decB at HD
      generalize hq : judgeL 1 2 a (f.getD k []) = q at *
      generalize hr : restL a (f.getD k []) = r at *
      generalize (f.getD k []).length = lc at *
      clear hq hr
      by_cases h1 : q = 1
      · subst h1
        have HN : Hid (¬ decC a (f.getD k [])) := fun h => by have := HD.out.2 h; simp at this
        go_wp2_with (go_at_call 16; refine HCl.out.mono ?_; rintro e w2 ⟨rfl, hq2⟩; have HB2 := Lib.hid (HB.out.trans (hq2.below _)); clear hq2)
        go_roundw
        case rel => exact ⟨k + 1, by omega, by go_num, HB2.out, HX.out HN.out⟩
        case measure => simp [intOf]; omega
      · have h1' : (q != 1) = true := by simpa using h1
        have h1'' : (q == 1) = false := by simpa using h1
        by_cases h2 : r.length ≤ 1
        · have HY : Hid (DecRes f a (k : Int)) := Or.inl ⟨k, rfl, hlt, HD.out.1 (by rw [h1', decide_eq_true h2]; rfl), fun j hj => HNO.out j hj⟩
          clear h1
          go_wp2_with (first
            | (go_at_call 16; refine HCl.out.mono ?_; rintro e w2 ⟨rfl, hq2⟩; have hu2 := (hq2.cell ⟨b, off + k, none⟩).trans hu1; have HQ2 := Lib.hid hq2; clear hq2)
            | (go_at_call 58; refine (HRe.out _ HQ2.out).mono ?_; rintro e w3 ⟨v3, rfl, ho3, hb3⟩; obtain ⟨a3, c3, rfl⟩ := ho3.shapeL; have HB3 := Lib.hid ((HB.out.trans (HQ2.out.below _)).trans (hb3.mono (by rw [HQ2.out.size]; exact HB.out.size))); clear ho3 hb3))
          go_ret
          exact ⟨_, rfl, HB3.out, HY.out⟩
        · have h2' : ¬ r.length ≤ 1 := h2
          have h3 : 1 < r.length := by omega
          have HN : Hid (¬ decC a (f.getD k [])) := fun h => by have := HD.out.2 h; simp at this; omega
          clear h1 h2
          go_wp2_with (first
            | (go_at_call 16; refine HCl.out.mono ?_; rintro e w2 ⟨rfl, hq2⟩; have hu2 := (hq2.cell ⟨b, off + k, none⟩).trans hu1; have HQ2 := Lib.hid hq2; clear hq2)
            | (go_at_call 58; refine (HRe.out _ HQ2.out).mono ?_; rintro e w3 ⟨v3, rfl, ho3, hb3⟩; obtain ⟨a3, c3, rfl⟩ := ho3.shapeL; have HB3 := Lib.hid ((HB.out.trans (HQ2.out.below _)).trans (hb3.mono (by rw [HQ2.out.size]; exact HB.out.size))); clear ho3 hb3))
          go_roundw
          case rel => exact ⟨k + 1, by omega, by go_num, HB3.out, HX.out HN.out⟩
          case measure => simp [intOf]; omega
    · have hkf : k = f.length := by omega
      subst hkf
      have HB := Lib.hid hbel
      clear hbel
      go_wp2
      go_ret
      exact ⟨_, rfl, HB.out, Or.inr ⟨rfl, HNO.out⟩⟩

end Go.Proofs.YtkcbicakcjflkaaDoor
