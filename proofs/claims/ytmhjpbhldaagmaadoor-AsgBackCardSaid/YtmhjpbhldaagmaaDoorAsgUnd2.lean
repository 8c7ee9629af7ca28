/- asg.Under and the reference's: the whole. -/
import Derived.Test.YtmhjpbhldaagmaaDoorAsgUnd
namespace Go.Proofs.YtmhjpbhldaagmaaDoor
open Go.RowKit
set_option linter.unusedVariables false

set_option maxHeartbeats 800000 in
set_option maxRecDepth 100000 in
theorem unf1_any (a : Option Addr) (cap g : Nat) (m c : List Int) (u : Value) (w : World) (K : IsInts w (.slice a m.length cap) m) (hm : mayB m = true) (hc : mayB c = true) (H : IsInts w u c) (hg : w.cell? ⟨g, 0, none⟩ = some (.slice a m.length cap)) :
    Calls Tryd.prog 39 (#[u] ++ #[.pointer (some ⟨g, 0, none⟩)]) w fun e w' => e = .returned (.bool (judgeL 1 2 m c != 1)) ∧ Below w.heap.size w w' := by
  show Calls Tryd.prog 39 #[u, .pointer (some ⟨g, 0, none⟩)] w _
  have hcv := clausevalue_any _ u m c w K H hm hc
  rw [wholeL_eq m c 1 2 hm hc] at hcv
  obtain ⟨au, cu, rfl⟩ := H.shape
  have HC := Lib.hid hcv
  clear hcv H
  go_enter Tryd.func39, Tryd.ntmps39
  go_wp2_with (go_at_call 40; refine HC.out.mono ?_; rintro e w1 ⟨rfl, hb⟩)
  go_ret
  exact ⟨rfl, hb⟩
theorem unf1_enters (args : Array Value) (w : World) : (callFunc 39 args).run Tryd.prog w = .ok (.enter 39 args) w := enters_of Tryd.func39 (by kernel_rfl) rfl args w
set_option maxHeartbeats 800000 in
set_option maxRecDepth 100000 in
theorem unf2_any (a : Option Addr) (cap g : Nat) (m : List Int) (x : Int) (w : World) (K : IsInts w (.slice a m.length cap) m) (hm : mayB m = true) (hx : litB x = true) (hg : w.cell? ⟨g, 0, none⟩ = some (.slice a m.length cap)) :
    Calls Tryd.prog 42 (#[.int .i64 x] ++ #[.pointer (some ⟨g, 0, none⟩)]) w fun e w' => e = .returned (.bool (valN m x != 2)) ∧ w = w' := by
  show Calls Tryd.prog 42 #[.int .i64 x, .pointer (some ⟨g, 0, none⟩)] w _
  go_enter Tryd.func42, Tryd.ntmps42
  go_wp2_with (go_at_call 43; refine (value_any _ m x _ K hm hx).mono ?_; rintro e w1 ⟨rfl, rfl⟩)
  go_ret
  exact ⟨rfl, rfl⟩
theorem unf2_enters (args : Array Value) (w : World) : (callFunc 42 args).run Tryd.prog w = .ok (.enter 42 args) w := enters_of Tryd.func42 (by kernel_rfl) rfl args w

/-- Of a clause that is not true, the literals that are not false are the open ones. -/
theorem notfalse_open {a c : List Int} (ha : mayB a = true) (hc : mayB c = true) (hj : judgeL 1 2 a c ≠ 1) : c.filter (fun x => valN a x != 2) = restL a c := by
  unfold restL
  apply List.filter_congr
  intro x hx
  unfold openB
  rw [valL_norm ha hc hx]
  have h1 : valN a x ≠ 1 := fun h => hj ((judge_true ha hc).2 ⟨x, hx, (valN_one a x).1 h⟩)
  have hb := valN_bd a x
  rw [Bool.eq_iff_iff, bne_iff_ne, beq_iff_eq]
  omega
theorem restL_64 {a c : List Int} (h : In64 c) : In64 (restL a c) := fun x hx => h x (List.mem_filter.1 hx).1

set_option maxHeartbeats 3200000 in
set_option maxRecDepth 100000 in
theorem under_any (va vf : Value) (a : List Int) (f : List (List Int)) (w : World) (HA : IsInts w va a) (HR : IsRows w vf f) :
    Calls Tryd.prog 13 #[va, vf] w (RowsPost w (underL a f)) := by
  obtain ⟨aa, ca, rfl⟩ := HA.shape
  obtain ⟨av, cv, rfl, hfl⟩ := HR.shape
  have hbel : Below w.heap.size w (w.alloc (.cells #[.slice aa a.length ca] 23)) := (Below.refl _ w).alloc (Nat.le_refl _) _
  have HA1 := HA.below hbel (Nat.le_refl _)
  have HR1 := HR.below hbel (Nat.le_refl _)
  have hcell : (w.alloc (.cells #[.slice aa a.length ca] 23)).cell? ⟨w.heap.size, 0, none⟩ = some (.slice aa a.length ca) := World.cell?_alloc_at _ _ _ _ rfl
  have hmay := may_v _ a _ HA1
  have hcnf := maycnf_any _ f _ HR1
  by_cases hm : mayB a = true
  · by_cases hc : mayCnfB f = true
    · have hmc : ∀ c ∈ f, mayB c = true := by unfold mayCnfB at hc; rw [decide_eq_true_eq] at hc; exact hc.2.2
      have hlen : f.length ≤ 20000 := by unfold mayCnfB at hc; rw [decide_eq_true_eq] at hc; exact hc.1
      have hch := chosenr_any (fun c => judgeL 1 2 a c != 1) 39 #[.pointer (some ⟨w.heap.size, 0, none⟩)] _ f _ hlen unf1_enters (fun W hW c hcf u HU => unf1_any aa ca w.heap.size a c u W (HA1.below hW (Nat.le_refl _)) hm (hmc c hcf) HU ((hW.cell (p := ⟨w.heap.size, 0, none⟩) (by simp)).trans hcell)) HR1
      have hF : underL a f = (f.filter (fun c => judgeL 1 2 a c != 1)).map (restL a) := by unfold underL; rw [hm, hc]; rfl
      have hsub : ∀ c ∈ f.filter (fun c => judgeL 1 2 a c != 1), mayB c = true ∧ judgeL 1 2 a c ≠ 1 := fun c hcf => by
        obtain ⟨h1, h2⟩ := List.mem_filter.1 hcf
        exact ⟨hmc c h1, by simpa using h2⟩
      rw [hF]
      rw [hm] at hmay
      rw [hc] at hcnf
      have hll : (f.filter (fun c => judgeL 1 2 a c != 1)).length ≤ 20000 := Nat.le_trans (List.length_filter_le _ _) hlen
      generalize f.filter (fun c => judgeL 1 2 a c != 1) = ls at *
      have HM := Lib.hid hmay
      have HC := Lib.hid hcnf
      have HCH := Lib.hid hch
      have HB := Lib.hid hbel
      have HSU := Lib.hid hsub
      have HMM := Lib.hid hm
      have HAA := Lib.hid HA1
      have HLL : Hid (ls.length ≤ 20000) := hll
      have HCE := Lib.hid hcell
      clear hm hc hmay hcnf hch hmc HA HR HA1 HR1 hF hbel hsub hcell hll hlen
      go_enter Tryd.func13, Tryd.ntmps13
      go_wp2_with (first
        | (go_at_call 32; refine HM.out.mono ?_; rintro e w1 ⟨rfl, rfl⟩)
        | (go_at_call 33; refine HC.out.mono ?_; rintro e w1 ⟨rfl, rfl⟩)
        | (go_at_call 38; refine HCH.out.mono ?_; rintro e w2 ⟨v2, us, rfl, ho2, hra2, hb2⟩; obtain ⟨a2, c2, rfl⟩ := ho2.shape'; have HO2 := Lib.hid ho2; have HRA := Lib.hid hra2; have HB2 := Lib.hid hb2; have hul := hra2.1; clear ho2 hra2 hb2))
      have hus : us.length ≤ 20000 := by rw [hul]; exact HLL.out
      go_loopw [21] (fun si wr => ∃ (k : Nat) (us' : List Value), k ≤ us.length ∧ si = .int .i64 k ∧ us'.length = us.length ∧ OwnR wr (w.alloc (.cells #[.slice aa a.length ca] 23)).heap.size (.slice a2 us.length c2) us' ∧ (∀ j, j < k → Own wr (w.alloc (.cells #[.slice aa a.length ca] 23)).heap.size (us'.getD j (.slice none 0 0)) (restL a (ls.getD j []))) ∧ (∀ j, k ≤ j → us'.getD j (.slice none 0 0) = us.getD j (.slice none 0 0)) ∧ Below (w.alloc (.cells #[.slice aa a.length ca] 23)).heap.size (w.alloc (.cells #[.slice aa a.length ca] 23)) wr) (fun si wr => us.length - (intOf si).toNat)
      case atStart => exact ⟨0, us, Nat.zero_le _, rfl, rfl, HO2.out, fun j h => absurd h (Nat.not_lt_zero _), fun _ _ => rfl, HB2.out⟩
      case round =>
        clear HO2 HB2
        obtain ⟨k, us', hk, rfl, hl', hor, hdone, hrest, hbel⟩ := hrel
        have hsz := hbel.size
        have hsz1 : w.heap.size + 1 ≤ wr.heap.size := by have := hsz; simpa using this
        by_cases hlt : k < us.length
        · obtain ⟨g2, c3, ev, hg2a, hg2b⟩ := hor.at (by omega)
          rw [hl'] at ev
          injection ev with e1 _ e3
          subst e1; subst e3
          have hcu := hor.cell k (by omega)
          have hfz := hor.frozen k
          rw [hrest k (Nat.le_refl _)] at hcu
          have hkl : k < ls.length := by omega
          have HU := (HRA.out.2 k hkl).below hbel (Nat.le_refl _)
          obtain ⟨hmk, hjk⟩ := HSU.out _ (rows_getD_mem hkl)
          have hA2 := HAA.out.below hbel (Nat.le_refl _)
          have hce := (hbel.cell (p := ⟨w.heap.size, 0, none⟩) (by simp)).trans HCE.out
          have hci := choseni_any (fun x => valN a x != 2) 42 #[.pointer (some ⟨w.heap.size, 0, none⟩)] _ (ls.getD k []) wr unf2_enters (fun W hW x hx => unf2_any aa ca w.heap.size a x W (hA2.below hW (Nat.le_refl _)) HMM.out (mayB_mem hmk x hx) ((hW.cell (p := ⟨w.heap.size, 0, none⟩) (by show w.heap.size < wr.heap.size; omega)).trans hce)) HU
          rw [notfalse_open HMM.out hmk hjk] at hci
          have HCI := Lib.hid hci
          have HOR := Lib.hid hor
          have HD := Lib.hid hdone
          have HRE := Lib.hid hrest
          have HBB := Lib.hid hbel
          obtain ⟨au, cu, eu⟩ := HU.shape
          rw [eu] at hcu HCI
          clear hci hor hdone hrest hbel HU hmk hjk hA2 hce eu
          generalize hrk : restL a (ls.getD k []) = rk at *
          have HRK := Lib.hid hrk
          generalize (ls.getD k []).length = lk at *
          clear hrk
          go_wp2_with (go_at_call 41; refine HCI.out.mono ?_; rintro e w4 ⟨v4, rfl, ho4, hb4⟩; obtain ⟨a4, c4, rfl⟩ := ho4.shapeL; have HO4 := Lib.hid ho4; have HOR4 := Lib.hid (HOR.out.below hb4 (Nat.le_refl _)); have hf4 := HOR4.out.frozen k; have hc4 := HOR4.out.cell k (by omega); have HB4 := Lib.hid hb4; clear ho4 hb4)
          go_roundw
          case rel =>
            have hgt : ∀ j, (us'.set k (.slice a4 rk.length c4)).getD j (.slice none 0 0) = if j = k then .slice a4 rk.length c4 else us'.getD j (.slice none 0 0) := fun j => by
              simp only [List.getD_eq_getElem?_getD, List.getElem?_set]
              by_cases h : k = j
              · subst h; simp [show k < us'.length by omega]
              · rw [if_neg h, if_neg (fun e => h e.symm)]
            refine ⟨k + 1, us'.set k (.slice a4 rk.length c4), by omega, by go_num, by simp [hl'], HOR4.out.store k _, fun j hj => ?_, fun j hj => ?_, (HBB.out.trans (HB4.out.mono HBB.out.size)).setCell (by exact hg2a) _⟩
            · rw [hgt]
              by_cases e : j = k
              · subst e
                rw [if_pos rfl, HRK.out]
                exact HOR4.out.setR (HO4.out.mono HBB.out.size)
              · rw [if_neg e]
                exact HOR4.out.setR ((HD.out j (by omega)).below HB4.out (Nat.le_refl _))
            · rw [hgt, if_neg (by omega)]
              exact HRE.out j (by omega)
          case measure => simp [intOf]; omega
        · have hku : k = us.length := by omega
          subst hku
          have HY : Hid (RowsPost w (ls.map (restL a)) (.returned (.slice a2 us.length c2)) wr) := ⟨_, us', rfl, hor.mono (by simp), ⟨by rw [hl', hul]; simp, fun j hj => by
            have hj2 : j < ls.length := by simpa using hj
            have := hdone j (by omega)
            rw [show (ls.map (restL a)).getD j [] = restL a (ls.getD j []) from by simp [List.getD, hj2]]
            exact this.mono (by simp)⟩, HB.out.trans (hbel.mono (by simp))⟩
          clear hor hdone hrest hbel
          go_wp2
          go_ret
          have h9 := HY.out
          rw [hul] at h9
          exact h9
    · have hc' : mayCnfB f = false := by simpa using hc
      have hF : underL a f = [] := by unfold underL; rw [hc', Bool.and_false]; rfl
      rw [hF]
      rw [hm] at hmay
      rw [hc'] at hcnf
      have HM := Lib.hid hmay
      have HC := Lib.hid hcnf
      have HB := Lib.hid hbel
      clear hm hc hc' hmay hcnf HA HR HA1 HR1 hbel hF
      go_enter Tryd.func13, Tryd.ntmps13
      go_wp2_with (first
        | (go_at_call 32; refine HM.out.mono ?_; rintro e w1 ⟨rfl, rfl⟩)
        | (go_at_call 33; refine HC.out.mono ?_; rintro e w1 ⟨rfl, rfl⟩))
      go_ret
      exact ⟨_, [], rfl, OwnR.nil _ _, ⟨rfl, fun j h => absurd h (Nat.not_lt_zero _)⟩, HB.out⟩
  · have hm' : mayB a = false := by simpa using hm
    have hF : underL a f = [] := by unfold underL; rw [hm']; rfl
    rw [hF]
    rw [hm'] at hmay
    have HM := Lib.hid hmay
    have HB := Lib.hid hbel
    clear hm hm' hmay hcnf HA HR HA1 HR1 hbel hF
    go_enter Tryd.func13, Tryd.ntmps13
    go_wp2_with (go_at_call 32; refine HM.out.mono ?_; rintro e w1 ⟨rfl, rfl⟩)
    go_ret
    exact ⟨_, [], rfl, OwnR.nil _ _, ⟨rfl, fun j h => absurd h (Nat.not_lt_zero _)⟩, HB.out⟩

end Go.Proofs.YtmhjpbhldaagmaaDoor
