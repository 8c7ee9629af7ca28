/- asg.Cnf. -/
import Derived.Test.YtmhjpbhldaagmaaDoorMgV
import Derived.Test.YtmhjpbhldaagmaaDoorMgU
namespace Go.Proofs.YtmhjpbhldaagmaaDoor
open Go.RowKit
set_option linter.unusedVariables false

/-- The function that is handed over answers q of a list of f, in whatever world behind w0, and leaves what was. -/
def TellsR (P : Program) (g : Nat) (cb : Array Value) (q : List Int → Int) (f : List (List Int)) (w0 : World) : Prop :=
  ∀ W, Below w0.heap.size w0 W → ∀ c ∈ f, ∀ u, IsInts W u c → Calls P g (#[u] ++ cb) W fun e w' => e = .returned (.int .u8 (q c)) ∧ Below W.heap.size W w'
def anyR (q : List Int → Int) (f : List (List Int)) (t : Int) : Bool := f.any (fun c => q c == t)
def wholeR (q : List Int → Int) (t z : Int) (f : List (List Int)) : Int := if anyR q f t then t else if anyR q f 0 then 0 else z
theorem anyR_take {q : List Int → Int} {f : List (List Int)} {k : Nat} (h : k < f.length) (t : Int) : anyR q (f.take (k + 1)) t = (anyR q (f.take k) t || (q (f.getD k []) == t)) := by
  unfold anyR
  rw [rows_take_succ h, List.any_append]
  simp
theorem anyR_at {q : List Int → Int} {f : List (List Int)} {k : Nat} (h : k < f.length) {t : Int} (ht : q (f.getD k []) = t) : anyR q f t = true := by
  unfold anyR
  rw [List.any_eq_true]
  exact ⟨_, rows_getD_mem h, by simpa using ht⟩

set_option maxHeartbeats 1600000 in
set_option maxRecDepth 100000 in
theorem wholer_any (q : List Int → Int) (g : Nat) (cb : Array Value) (t z : Int) (v : Value) (f : List (List Int)) (w : World)
    (eg : ∀ args w, (callFunc g args).run Tryd.prog w = .ok (.enter g args) w) (ht : TellsR Tryd.prog g cb q f w) (H : IsRows w v f) :
    Calls Tryd.prog 50 #[v, .func (.func g) #[] cb, .int .u8 t, .int .u8 z] w fun e w' => e = .returned (.int .u8 (wholeR q t z f)) ∧ Below w.heap.size w w' := by
  obtain ⟨av, cap, rfl, hfl⟩ := H.shape
  have HRR := Lib.hid H
  have HTE := Lib.hid ht
  clear H ht
  go_enter Tryd.func50, Tryd.ntmps50
  go_wp2
  go_loopw [3, 13] (fun r i wr => ∃ k : Nat, k ≤ f.length ∧ i = .int .i64 k ∧ r = .int .u8 (if anyR q (f.take k) 0 then 0 else z) ∧ anyR q (f.take k) t = false ∧ Below w.heap.size w wr) (fun _ i _ => f.length - (intOf i).toNat)
  case atStart => exact ⟨0, Nat.zero_le _, rfl, rfl, rfl, Below.refl _ _⟩
  case round =>
    obtain ⟨k, hk, rfl, rfl, hno, hbel⟩ := hrel
    by_cases hlt : k < f.length
    · obtain ⟨b, off, u, rfl, hbk, hu, HU⟩ := HRR.out.at hlt
      have hu1 := (hbel.cell (p := ⟨b, off + k, none⟩) hbk).trans hu
      have hct := HTE.out wr hbel _ (rows_getD_mem hlt) u (HU.below hbel (Nat.le_refl _))
      have HB := Lib.hid hbel
      have HK0 := Lib.hid (anyR_take (q := q) hlt 0)
      have HK1 := Lib.hid (anyR_take (q := q) hlt t)
      have HA := Lib.hid (anyR_at (q := q) hlt (t := t))
      have HN := Lib.hid hno
      have HCT := Lib.hid hct
      obtain ⟨au, cu, rfl⟩ := HU.shape
      clear hno hu HU hbel hct
      generalize anyR q (f.take k) 0 = o at *
      generalize q (f.getD k []) = y at *
      generalize (f.getD k []).length = lc at *
      generalize hr : (if o = true then 0 else z) = r at *
      have HR := Lib.hid hr
      clear hr
      by_cases h1 : y = t
      · have HF : Hid (wholeR q t z f = t) := by show _ = _; unfold wholeR; rw [HA.out h1]; rfl
        subst h1
        go_wp2_with fail
        refine HCT.out.mono ?_
        rintro e w1 ⟨rfl, hb1⟩
        have HB1 := Lib.hid (HB.out.trans (hb1.mono HB.out.size))
        clear hb1
        go_wp2
        go_ret
        exact ⟨by rw [HF.out]; rfl, HB1.out⟩
      · have h1' : (y == t) = false := by simpa using h1
        clear h1
        by_cases h0 : y = 0
        · subst h0
          go_wp2_with fail
          refine HCT.out.mono ?_
          rintro e w1 ⟨rfl, hb1⟩
          have HB1 := Lib.hid (HB.out.trans (hb1.mono HB.out.size))
          clear hb1
          go_wp2
          go_roundw
          case rel => exact ⟨k + 1, by omega, by go_num, by rw [HK0.out]; simp, by rw [HK1.out, HN.out, h1']; rfl, HB1.out⟩
          case measure => simp [intOf]; omega
        · have h0' : (y == 0) = false := by simpa using h0
          clear h0
          go_wp2_with fail
          refine HCT.out.mono ?_
          rintro e w1 ⟨rfl, hb1⟩
          have HB1 := Lib.hid (HB.out.trans (hb1.mono HB.out.size))
          clear hb1
          go_wp2
          go_roundw
          case rel => exact ⟨k + 1, by omega, by go_num, by rw [HK0.out, h0', Bool.or_false, HR.out], by rw [HK1.out, HN.out, h1']; rfl, HB1.out⟩
          case measure => simp [intOf]; omega
    · rw [List.take_of_length_le (by omega)] at hno
      rw [List.take_of_length_le (by omega)]
      have HF : Hid (wholeR q t z f = if anyR q f 0 = true then 0 else z) := by show _ = _; unfold wholeR; rw [hno]; rfl
      have HB := Lib.hid hbel
      clear hno hbel
      generalize (if anyR q f 0 = true then 0 else z) = r at *
      go_wp2
      go_ret
      exact ⟨by rw [HF.out]; rfl, HB.out⟩

set_option maxHeartbeats 800000 in
set_option maxRecDepth 100000 in
theorem cnff_any (a : Option Addr) (cap g : Nat) (m c : List Int) (u : Value) (w : World) (K : IsInts w (.slice a m.length cap) m) (hm : mayB m = true) (hc : mayB c = true) (H : IsInts w u c) (hg : w.cell? ⟨g, 0, none⟩ = some (.slice a m.length cap)) :
    Calls Tryd.prog 51 (#[u] ++ #[.pointer (some ⟨g, 0, none⟩)]) w fun e w' => e = .returned (.int .u8 (judgeL 1 2 m c)) ∧ Below w.heap.size w w' := by
  show Calls Tryd.prog 51 #[u, .pointer (some ⟨g, 0, none⟩)] w _
  have hcv := clausevalue_any _ u m c w K H hm hc
  rw [wholeL_eq m c 1 2 hm hc] at hcv
  obtain ⟨au, cu, rfl⟩ := H.shape
  have HC := Lib.hid hcv
  clear hcv H
  go_enter Tryd.func51, Tryd.ntmps51
  go_wp2_with (go_at_call 40; refine HC.out.mono ?_; rintro e w1 ⟨rfl, hb⟩)
  go_ret
  exact ⟨rfl, hb⟩
theorem cnff_enters (args : Array Value) (w : World) : (callFunc 51 args).run Tryd.prog w = .ok (.enter 51 args) w := enters_of Tryd.func51 (by kernel_rfl) rfl args w

set_option maxHeartbeats 800000 in
set_option maxRecDepth 100000 in
theorem cnf_any (va vf : Value) (a : List Int) (f : List (List Int)) (w : World) (HA : IsInts w va a) (HR : IsRows w vf f) :
    Calls Tryd.prog 19 #[va, vf] w fun e w' => e = .returned (.int .u8 (cnfL a f)) ∧ Below w.heap.size w w' := by
  obtain ⟨aa, ca, rfl⟩ := HA.shape
  obtain ⟨av, cv, rfl, hfl⟩ := HR.shape
  have hbel : Below w.heap.size w (w.alloc (.cells #[.slice aa a.length ca] 23)) := (Below.refl _ w).alloc (Nat.le_refl _) _
  have HA1 := HA.below hbel (Nat.le_refl _)
  have HR1 := HR.below hbel (Nat.le_refl _)
  have hcell : (w.alloc (.cells #[.slice aa a.length ca] 23)).cell? ⟨w.heap.size, 0, none⟩ = some (.slice aa a.length ca) := World.cell?_alloc_at _ _ _ _ rfl
  have hmay := may_v _ a _ HA1
  have hcnf := maycnf_any _ f _ HR1
  by_cases hm : mayB a = true
  · by_cases hc : mayCnfB f = true
    · have hF : cnfL a f = wholeR (judgeL 1 2 a) 2 1 f := by unfold cnfL wholeR anyC anyR; rw [hm, hc]; rfl
      have hw := wholer_any (judgeL 1 2 a) 51 #[.pointer (some ⟨w.heap.size, 0, none⟩)] 2 1 _ f _ cnff_enters (fun W hW c hcf u HU => cnff_any aa ca w.heap.size a c u W (HA1.below hW (Nat.le_refl _)) hm (by unfold mayCnfB at hc; rw [decide_eq_true_eq] at hc; exact hc.2.2 c hcf) HU ((hW.cell (p := ⟨w.heap.size, 0, none⟩) (by simp)).trans hcell)) HR1
      rw [← hF] at hw
      rw [hm] at hmay
      rw [hc] at hcnf
      have HM := Lib.hid hmay
      have HC := Lib.hid hcnf
      have HW := Lib.hid hw
      have HB := Lib.hid hbel
      clear hm hc hmay hcnf hw HA HR HA1 HR1 hF hbel
      go_enter Tryd.func19, Tryd.ntmps19
      go_wp2_with (first
        | (go_at_call 32; refine HM.out.mono ?_; rintro e w1 ⟨rfl, rfl⟩)
        | (go_at_call 33; refine HC.out.mono ?_; rintro e w1 ⟨rfl, rfl⟩)
        | (go_at_call 50; refine HW.out.mono ?_; rintro e w2 ⟨rfl, hb2⟩; have HB2 := Lib.hid (HB.out.trans (hb2.mono (by simp))); clear hb2))
      go_ret
      exact ⟨rfl, HB2.out⟩
    · have hc' : mayCnfB f = false := by simpa using hc
      have hF : Hid (cnfL a f = 0) := by show _ = _; unfold cnfL; rw [hc', Bool.and_false]; rfl
      rw [hm] at hmay
      rw [hc'] at hcnf
      have HM := Lib.hid hmay
      have HC := Lib.hid hcnf
      have HB := Lib.hid hbel
      clear hm hc hc' hmay hcnf HA HR HA1 HR1 hbel
      go_enter Tryd.func19, Tryd.ntmps19
      go_wp2_with (first
        | (go_at_call 32; refine HM.out.mono ?_; rintro e w1 ⟨rfl, rfl⟩)
        | (go_at_call 33; refine HC.out.mono ?_; rintro e w1 ⟨rfl, rfl⟩))
      go_ret
      exact ⟨by rw [hF.out]; rfl, HB.out⟩
  · have hm' : mayB a = false := by simpa using hm
    have hF : Hid (cnfL a f = 0) := by show _ = _; unfold cnfL; rw [hm']; rfl
    rw [hm'] at hmay
    have HM := Lib.hid hmay
    have HB := Lib.hid hbel
    clear hm hm' hmay hcnf HA HR HA1 HR1 hbel
    go_enter Tryd.func19, Tryd.ntmps19
    go_wp2_with (go_at_call 32; refine HM.out.mono ?_; rintro e w1 ⟨rfl, rfl⟩)
    go_ret
    exact ⟨by rw [hF.out]; rfl, HB.out⟩

end Go.Proofs.YtmhjpbhldaagmaaDoor
