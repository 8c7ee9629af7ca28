/- Joined texts: AsgUnd, AsgUnd2. -/
import Derived.Test.YtmhjpbhldaagmaaDoorAsgCnf
import Derived.Test.YtmhjpbhldaagmaaDoorUnitsQ
/- asg.Under and the reference's. -/
namespace Go.Proofs.YtmhjpbhldaagmaaDoor
open Go.RowKit
set_option linter.unusedVariables false

/-- The values are the call's own slices, of these integers. -/
def RowsO (w : World) (B : Nat) (us : List Value) (ls : List (List Int)) : Prop := us.length = ls.length ∧ ∀ j, j < ls.length → Own w B (us.getD j (.slice none 0 0)) (ls.getD j [])
theorem OwnR.noO {w : World} {B B' : Nat} {v u : Value} {us : List Value} {xs : List Int} (h : OwnR w B v us) (k : Own w B' u xs) : ∀ g, v.ownBlock = some g → u.ownBlock ≠ some g := by
  intro g hg hu
  rcases h.2 with ⟨rfl, h2⟩ | ⟨g1, cap, cur, rfl, _, hg1, _⟩
  · cases hg
  · rcases k.2 with ⟨rfl, h2⟩ | ⟨g2, cap2, cur2, rfl, _, hg2, _⟩
    · cases hu
    · simp [Value.ownBlock] at hg hu
      subst hg; subst hu
      rw [hg1] at hg2
      simp only [Option.some.injEq, Obj.cells.injEq] at hg2
      exact absurd hg2.2.1 (by decide)
theorem OwnR.setR {w : World} {B B' g n c j : Nat} {u : Value} {us : List Value} {xs : List Int} {x : Value} (h : OwnR w B (.slice (some ⟨g, 0, none⟩) n c) us) (ho : Own w B' u xs) : Own (w.setCell ⟨g, j, none⟩ x) B' u xs :=
  (Kept.setCell w ⟨g, j, none⟩ x).row ho fun k hk e => h.noO ho g rfl (by rw [hk]; exact congrArg some e)
theorem OwnR.shape' {w : World} {B : Nat} {v : Value} {us : List Value} (h : OwnR w B v us) : ∃ a cap, v = .slice a us.length cap := by
  rcases h.2 with ⟨rfl, h2⟩ | ⟨g, cap, cur, rfl, _⟩
  · exact ⟨none, 0, by rw [h2]⟩
  · exact ⟨_, _, rfl⟩
theorem OwnR.at {w : World} {B : Nat} {v : Value} {us : List Value} (h : OwnR w B v us) (hne : 0 < us.length) : ∃ g cap, v = .slice (some ⟨g, 0, none⟩) us.length cap ∧ B ≤ g ∧ g < w.heap.size := by
  rcases h.2 with ⟨rfl, h2⟩ | ⟨g, cap, cur, rfl, hB, hg, rest⟩
  · omega
  · exact ⟨g, cap, rfl, hB, (Array.getElem?_eq_some_iff.1 hg).1⟩
/-- What Under hands back. -/
def RowsPost (w : World) (r : List (List Int)) (e : Ending) (w' : World) : Prop := ∃ v us, e = .returned v ∧ OwnR w' w.heap.size v us ∧ RowsO w' w.heap.size us r ∧ Below w.heap.size w w'
def underL (a : List Int) (f : List (List Int)) : List (List Int) := if mayB a && mayCnfB f then (f.filter (fun c => judgeL 1 2 a c != 1)).map (restL a) else []

/-- The function that is handed over answers p of a number of the list, and leaves the world. -/
def TellsP (P : Program) (g : Nat) (cb : Array Value) (p : Int → Bool) (l : List Int) (w0 : World) : Prop :=
  ∀ W, Below w0.heap.size w0 W → ∀ x ∈ l, Calls P g (#[.int .i64 x] ++ cb) W fun e w' => e = .returned (.bool (p x)) ∧ W = w'
set_option maxHeartbeats 1600000 in
set_option maxRecDepth 100000 in
theorem choseni_any (p : Int → Bool) (g : Nat) (cb : Array Value) (v : Value) (l : List Int) (w : World)
    (eg : ∀ args w, (callFunc g args).run Tryd.prog w = .ok (.enter g args) w) (ht : TellsP Tryd.prog g cb p l w) (H : IsInts w v l) :
    Calls Tryd.prog 41 #[v, .func (.func g) #[] cb] w (RetOwn w (l.filter p)) := by
  obtain ⟨a, cap, rfl, _, _, hl, h64, b, off, ha, hc⟩ := H
  have HC := Lib.hid hc
  have HTE := Lib.hid ht
  clear hc ht
  go_enter Tryd.func41, Tryd.ntmps41
  go_wp2
  go_loopw [5, 10] (fun out i wr => ∃ k : Nat, k ≤ l.length ∧ i = .int .i64 k ∧ Own wr w.heap.size out ((l.take k).filter p) ∧ Below w.heap.size w wr) (fun _ i _ => l.length - (intOf i).toNat)
  case atStart => exact ⟨0, Nat.zero_le _, rfl, Own.nil _ _, Below.refl _ _⟩
  case round =>
    obtain ⟨k, hk, rfl, hown, hbel⟩ := hrel
    by_cases hlt : k < l.length
    · obtain ⟨rfl, hb⟩ := ha (by intro h; simp [h] at hlt)
      have hy := (hbel.cell (p := ⟨b, off + k, none⟩) hb).trans (HC.out k hlt)
      have hy1 := (h64.at k hlt).1
      have hy2 := (h64.at k hlt).2
      have hle := filter_take_le p l k hk
      have hsz := hbel.size
      have hct := HTE.out wr hbel _ (getD_mem hlt)
      have HO := Lib.hid hown
      have HB := Lib.hid hbel
      by_cases hp : p (l.getD k 0) = true
      · have HT := Lib.hid (filter_take_hit hlt hp)
        rw [hp] at hct
        have HCT := Lib.hid hct
        clear hp ha hct hown hbel
        generalize l.getD k 0 = y at *
        go_wp2_with fail
        refine HCT.out.mono ?_
        rintro e w1 ⟨rfl, rfl⟩
        go_wp2_with (at_builtin; refine wpList_app1 rfl _ _ rfl w.heap.size _ _ y wr.heap.size rfl rfl (HO.out.alloc _) (by simp) (by omega) (by simp; omega) ?_; intro v' w' hown' hg')
        go_roundw
        case rel => exact ⟨k + 1, by omega, by go_num, by rw [HT.out]; exact hown', below_app (HB.out.alloc (by omega) _) (HO.out.alloc _) (by simp; omega) hg'⟩
        case measure => simp [intOf]; omega
      · have hp' : p (l.getD k 0) = false := by simpa using hp
        have HT := Lib.hid (filter_take_miss hlt hp')
        rw [hp'] at hct
        have HCT := Lib.hid hct
        clear hp hp' ha hct hown hbel
        generalize l.getD k 0 = y at *
        go_wp2_with fail
        refine HCT.out.mono ?_
        rintro e w1 ⟨rfl, rfl⟩
        go_wp2
        go_roundw
        case rel => exact ⟨k + 1, by omega, by go_num, by rw [HT.out]; exact HO.out, HB.out⟩
        case measure => simp [intOf]; omega
    · have hown2 := hown
      rw [List.take_of_length_le (by omega)] at hown2
      clear hown
      go_wp2
      go_ret
      exact ⟨_, rfl, hown2, hbel⟩

/-- .. of a list of f. -/
def TellsC (P : Program) (g : Nat) (cb : Array Value) (p : List Int → Bool) (f : List (List Int)) (w0 : World) : Prop :=
  ∀ W, Below w0.heap.size w0 W → ∀ c ∈ f, ∀ u, IsInts W u c → Calls P g (#[u] ++ cb) W fun e w' => e = .returned (.bool (p c)) ∧ Below W.heap.size W w'
def ChosenR (w : World) (r : List (List Int)) (e : Ending) (w' : World) : Prop := ∃ v us, e = .returned v ∧ OwnR w' w.heap.size v us ∧ RowsAre w us r ∧ Below w.heap.size w w'
theorem filterR_hit {p : List Int → Bool} {f : List (List Int)} {k : Nat} (h : k < f.length) (hp : p (f.getD k []) = true) : (f.take (k + 1)).filter p = (f.take k).filter p ++ [f.getD k []] := by
  rw [rows_take_succ h, List.filter_append, List.filter_cons, if_pos hp]; rfl
theorem filterR_miss {p : List Int → Bool} {f : List (List Int)} {k : Nat} (h : k < f.length) (hp : p (f.getD k []) = false) : (f.take (k + 1)).filter p = (f.take k).filter p := by
  rw [rows_take_succ h, List.filter_append, List.filter_cons, if_neg (by rw [hp]; simp)]; simp
set_option maxHeartbeats 1600000 in
set_option maxRecDepth 100000 in
theorem chosenr_any (p : List Int → Bool) (g : Nat) (cb : Array Value) (v : Value) (f : List (List Int)) (w : World) (hfs : f.length ≤ 20000)
    (eg : ∀ args w, (callFunc g args).run Tryd.prog w = .ok (.enter g args) w) (ht : TellsC Tryd.prog g cb p f w) (H : IsRows w v f) :
    Calls Tryd.prog 38 #[v, .func (.func g) #[] cb] w (ChosenR w (f.filter p)) := by
  obtain ⟨av, cap, rfl, hfl⟩ := H.shape
  have HRR := Lib.hid H
  have HTE := Lib.hid ht
  clear H ht
  go_enter Tryd.func38, Tryd.ntmps38
  go_wp2
  go_loopw [5, 10] (fun out i wr => ∃ (k : Nat) (us : List Value), k ≤ f.length ∧ i = .int .i64 k ∧ OwnR wr w.heap.size out us ∧ RowsAre w us ((f.take k).filter p) ∧ us.length ≤ k ∧ Below w.heap.size w wr) (fun _ i _ => f.length - (intOf i).toNat)
  case atStart => exact ⟨0, [], Nat.zero_le _, rfl, OwnR.nil _ _, RowsAre.nil _, by simp, Below.refl _ _⟩
  case round =>
    obtain ⟨k, us, hk, rfl, hown, hra, hul, hbel⟩ := hrel
    have hsz := hbel.size
    by_cases hlt : k < f.length
    · obtain ⟨b, off, u, rfl, hbk, hu, HU⟩ := HRR.out.at hlt
      have hu1 := (hbel.cell (p := ⟨b, off + k, none⟩) hbk).trans hu
      have hct := HTE.out wr hbel _ (rows_getD_mem hlt) u (HU.below hbel (Nat.le_refl _))
      have HO := Lib.hid hown
      have HB := Lib.hid hbel
      have HRA := Lib.hid hra
      have HUU := Lib.hid HU
      obtain ⟨au, cu, rfl⟩ := HU.shape
      by_cases hp : p (f.getD k []) = true
      · have HT := Lib.hid (filterR_hit hlt hp)
        rw [hp] at hct
        have HCT := Lib.hid hct
        clear hp hct hown hbel hra hu HU
        generalize f.getD k [] = c at *
        go_wp2_with fail
        refine HCT.out.mono ?_
        rintro e w1 ⟨rfl, hb1⟩
        have HO1 := Lib.hid (HO.out.below hb1 (Nat.le_refl _))
        have HB1 := Lib.hid (HB.out.trans (hb1.mono hsz))
        have hs1 := HB1.out.size
        clear hb1
        go_wp2_with (at_builtin; refine wpList_appR1 rfl (.tmp 17) (.tmp 19) rfl w.heap.size _ us (.slice au c.length cu) w1.heap.size rfl rfl (HO1.out.alloc _) (by simp) rfl (by omega) (by simp <;> omega) ?_; intro v' w' hown' hg')
        go_roundw
        case rel => exact ⟨k + 1, _, by omega, by go_num, hown', by rw [HT.out]; exact HRA.out.snoc HUU.out, by simp; omega, belowR (HB1.out.alloc (by omega) _) (HO1.out.alloc _) (by simp; omega) hg'⟩
        case measure => simp [intOf]; omega
      · have hp' : p (f.getD k []) = false := by simpa using hp
        have HT := Lib.hid (filterR_miss hlt hp')
        rw [hp'] at hct
        have HCT := Lib.hid hct
        clear hp hp' hct hown hbel hra hu HU
        generalize f.getD k [] = c at *
        go_wp2_with fail
        refine HCT.out.mono ?_
        rintro e w1 ⟨rfl, hb1⟩
        have HO1 := Lib.hid (HO.out.below hb1 (Nat.le_refl _))
        have HB1 := Lib.hid (HB.out.trans (hb1.mono hsz))
        clear hb1
        go_wp2
        go_roundw
        case rel => exact ⟨k + 1, us, by omega, by go_num, HO1.out, by rw [HT.out]; exact HRA.out, by omega, HB1.out⟩
        case measure => simp [intOf]; omega
    · rw [List.take_of_length_le (by omega)] at hra
      have HR : Hid (ChosenR w (f.filter p) (.returned u5) wr) := ⟨_, us, rfl, hown, hra, hbel⟩
      clear hown hra hbel
      go_wp2
      go_ret
      exact HR.out

end Go.Proofs.YtmhjpbhldaagmaaDoor

/- asg.Under and the reference's: the whole. -/
namespace Go.Proofs.YtmhjpbhldaagmaaDoor
open Go.RowKit
set_option linter.unusedVariables false

set_option maxHeartbeats 800000 in
set_option maxRecDepth 100000 in
theorem unf1_any (a : Option Addr) (cap g : Nat) (m c : List Int) (u : Value) (w : World) (K : IsInts w (.slice a m.length cap) m) (hm : mayB m = true) (hc : mayB c = true) (H : IsInts w u c) (hg : w.cell? ⟨g, 0, none⟩ = some (.slice a m.length cap)) :
    Calls Tryd.prog 39 (#[u] ++ #[.pointer (some ⟨g, 0, none⟩)]) w fun e w' => e = .returned (.bool (judgeL 1 2 m c != 1)) ∧ Below w.heap.size w w' := by
  show Calls Tryd.prog 39 #[u, .pointer (some ⟨g, 0, none⟩)] w _
  have hcv := clausevalue_any _ u m c w K H hm hc
  rw [wholeL_eq m c 1 2 hm hc] at hcv
  obtain ⟨au, cu, rfl⟩ := H.shape
  have HC := Lib.hid hcv
  clear hcv H
  go_enter Tryd.func39, Tryd.ntmps39
  go_wp2_with (go_at_call 40; refine HC.out.mono ?_; rintro e w1 ⟨rfl, hb⟩)
  go_ret
  exact ⟨rfl, hb⟩
theorem unf1_enters (args : Array Value) (w : World) : (callFunc 39 args).run Tryd.prog w = .ok (.enter 39 args) w := enters_of Tryd.func39 (by kernel_rfl) rfl args w
set_option maxHeartbeats 800000 in
set_option maxRecDepth 100000 in
theorem unf2_any (a : Option Addr) (cap g : Nat) (m : List Int) (x : Int) (w : World) (K : IsInts w (.slice a m.length cap) m) (hm : mayB m = true) (hx : litB x = true) (hg : w.cell? ⟨g, 0, none⟩ = some (.slice a m.length cap)) :
    Calls Tryd.prog 42 (#[.int .i64 x] ++ #[.pointer (some ⟨g, 0, none⟩)]) w fun e w' => e = .returned (.bool (valN m x != 2)) ∧ w = w' := by
  show Calls Tryd.prog 42 #[.int .i64 x, .pointer (some ⟨g, 0, none⟩)] w _
  go_enter Tryd.func42, Tryd.ntmps42
  go_wp2_with (go_at_call 43; refine (value_any _ m x _ K hm hx).mono ?_; rintro e w1 ⟨rfl, rfl⟩)
  go_ret
  exact ⟨rfl, rfl⟩
theorem unf2_enters (args : Array Value) (w : World) : (callFunc 42 args).run Tryd.prog w = .ok (.enter 42 args) w := enters_of Tryd.func42 (by kernel_rfl) rfl args w

/-- Of a clause that is not true, the literals that are not false are the open ones. -/
theorem notfalse_open {a c : List Int} (ha : mayB a = true) (hc : mayB c = true) (hj : judgeL 1 2 a c ≠ 1) : c.filter (fun x => valN a x != 2) = restL a c := by
  unfold restL
  apply List.filter_congr
  intro x hx
  unfold openB
  rw [valL_norm ha hc hx]
  have h1 : valN a x ≠ 1 := fun h => hj ((judge_true ha hc).2 ⟨x, hx, (valN_one a x).1 h⟩)
  have hb := valN_bd a x
  rw [Bool.eq_iff_iff, bne_iff_ne, beq_iff_eq]
  omega
theorem restL_64 {a c : List Int} (h : In64 c) : In64 (restL a c) := fun x hx => h x (List.mem_filter.1 hx).1

set_option maxHeartbeats 3200000 in
set_option maxRecDepth 100000 in
theorem under_any (va vf : Value) (a : List Int) (f : List (List Int)) (w : World) (HA : IsInts w va a) (HR : IsRows w vf f) :
    Calls Tryd.prog 13 #[va, vf] w (RowsPost w (underL a f)) := by
  obtain ⟨aa, ca, rfl⟩ := HA.shape
  obtain ⟨av, cv, rfl, hfl⟩ := HR.shape
  have hbel : Below w.heap.size w (w.alloc (.cells #[.slice aa a.length ca] 23)) := (Below.refl _ w).alloc (Nat.le_refl _) _
  have HA1 := HA.below hbel (Nat.le_refl _)
  have HR1 := HR.below hbel (Nat.le_refl _)
  have hcell : (w.alloc (.cells #[.slice aa a.length ca] 23)).cell? ⟨w.heap.size, 0, none⟩ = some (.slice aa a.length ca) := World.cell?_alloc_at _ _ _ _ rfl
  have hmay := may_v _ a _ HA1
  have hcnf := maycnf_any _ f _ HR1
  by_cases hm : mayB a = true
  · by_cases hc : mayCnfB f = true
    · have hmc : ∀ c ∈ f, mayB c = true := by unfold mayCnfB at hc; rw [decide_eq_true_eq] at hc; exact hc.2.2
      have hlen : f.length ≤ 20000 := by unfold mayCnfB at hc; rw [decide_eq_true_eq] at hc; exact hc.1
      have hch := chosenr_any (fun c => judgeL 1 2 a c != 1) 39 #[.pointer (some ⟨w.heap.size, 0, none⟩)] _ f _ hlen unf1_enters (fun W hW c hcf u HU => unf1_any aa ca w.heap.size a c u W (HA1.below hW (Nat.le_refl _)) hm (hmc c hcf) HU ((hW.cell (p := ⟨w.heap.size, 0, none⟩) (by simp)).trans hcell)) HR1
      have hF : underL a f = (f.filter (fun c => judgeL 1 2 a c != 1)).map (restL a) := by unfold underL; rw [hm, hc]; rfl
      have hsub : ∀ c ∈ f.filter (fun c => judgeL 1 2 a c != 1), mayB c = true ∧ judgeL 1 2 a c ≠ 1 := fun c hcf => by
        obtain ⟨h1, h2⟩ := List.mem_filter.1 hcf
        exact ⟨hmc c h1, by simpa using h2⟩
      rw [hF]
      rw [hm] at hmay
      rw [hc] at hcnf
      have hll : (f.filter (fun c => judgeL 1 2 a c != 1)).length ≤ 20000 := Nat.le_trans (List.length_filter_le _ _) hlen
      generalize f.filter (fun c => judgeL 1 2 a c != 1) = ls at *
      have HM := Lib.hid hmay
      have HC := Lib.hid hcnf
      have HCH := Lib.hid hch
      have HB := Lib.hid hbel
      have HSU := Lib.hid hsub
      have HMM := Lib.hid hm
      have HAA := Lib.hid HA1
      have HLL : Hid (ls.length ≤ 20000) := hll
      have HCE := Lib.hid hcell
      clear hm hc hmay hcnf hch hmc HA HR HA1 HR1 hF hbel hsub hcell hll hlen
      go_enter Tryd.func13, Tryd.ntmps13
      go_wp2_with (first
        | (go_at_call 32; refine HM.out.mono ?_; rintro e w1 ⟨rfl, rfl⟩)
        | (go_at_call 33; refine HC.out.mono ?_; rintro e w1 ⟨rfl, rfl⟩)
        | (go_at_call 38; refine HCH.out.mono ?_; rintro e w2 ⟨v2, us, rfl, ho2, hra2, hb2⟩; obtain ⟨a2, c2, rfl⟩ := ho2.shape'; have HO2 := Lib.hid ho2; have HRA := Lib.hid hra2; have HB2 := Lib.hid hb2; have hul := hra2.1; clear ho2 hra2 hb2))
      have hus : us.length ≤ 20000 := by rw [hul]; exact HLL.out
      go_loopw [21] (fun si wr => ∃ (k : Nat) (us' : List Value), k ≤ us.length ∧ si = .int .i64 k ∧ us'.length = us.length ∧ OwnR wr (w.alloc (.cells #[.slice aa a.length ca] 23)).heap.size (.slice a2 us.length c2) us' ∧ (∀ j, j < k → Own wr (w.alloc (.cells #[.slice aa a.length ca] 23)).heap.size (us'.getD j (.slice none 0 0)) (restL a (ls.getD j []))) ∧ (∀ j, k ≤ j → us'.getD j (.slice none 0 0) = us.getD j (.slice none 0 0)) ∧ Below (w.alloc (.cells #[.slice aa a.length ca] 23)).heap.size (w.alloc (.cells #[.slice aa a.length ca] 23)) wr) (fun si wr => us.length - (intOf si).toNat)
      case atStart => exact ⟨0, us, Nat.zero_le _, rfl, rfl, HO2.out, fun j h => absurd h (Nat.not_lt_zero _), fun _ _ => rfl, HB2.out⟩
      case round =>
        clear HO2 HB2
        obtain ⟨k, us', hk, rfl, hl', hor, hdone, hrest, hbel⟩ := hrel
        have hsz := hbel.size
        have hsz1 : w.heap.size + 1 ≤ wr.heap.size := by have := hsz; simpa using this
        by_cases hlt : k < us.length
        · obtain ⟨g2, c3, ev, hg2a, hg2b⟩ := hor.at (by omega)
          rw [hl'] at ev
          injection ev with e1 _ e3
          subst e1; subst e3
          have hcu := hor.cell k (by omega)
          have hfz := hor.frozen k
          rw [hrest k (Nat.le_refl _)] at hcu
          have hkl : k < ls.length := by omega
          have HU := (HRA.out.2 k hkl).below hbel (Nat.le_refl _)
          obtain ⟨hmk, hjk⟩ := HSU.out _ (rows_getD_mem hkl)
          have hA2 := HAA.out.below hbel (Nat.le_refl _)
          have hce := (hbel.cell (p := ⟨w.heap.size, 0, none⟩) (by simp)).trans HCE.out
          have hci := choseni_any (fun x => valN a x != 2) 42 #[.pointer (some ⟨w.heap.size, 0, none⟩)] _ (ls.getD k []) wr unf2_enters (fun W hW x hx => unf2_any aa ca w.heap.size a x W (hA2.below hW (Nat.le_refl _)) HMM.out (mayB_mem hmk x hx) ((hW.cell (p := ⟨w.heap.size, 0, none⟩) (by show w.heap.size < wr.heap.size; omega)).trans hce)) HU
          rw [notfalse_open HMM.out hmk hjk] at hci
          have HCI := Lib.hid hci
          have HOR := Lib.hid hor
          have HD := Lib.hid hdone
          have HRE := Lib.hid hrest
          have HBB := Lib.hid hbel
          obtain ⟨au, cu, eu⟩ := HU.shape
          rw [eu] at hcu HCI
          clear hci hor hdone hrest hbel HU hmk hjk hA2 hce eu
          generalize hrk : restL a (ls.getD k []) = rk at *
          have HRK := Lib.hid hrk
          generalize (ls.getD k []).length = lk at *
          clear hrk
          go_wp2_with (go_at_call 41; refine HCI.out.mono ?_; rintro e w4 ⟨v4, rfl, ho4, hb4⟩; obtain ⟨a4, c4, rfl⟩ := ho4.shapeL; have HO4 := Lib.hid ho4; have HOR4 := Lib.hid (HOR.out.below hb4 (Nat.le_refl _)); have hf4 := HOR4.out.frozen k; have hc4 := HOR4.out.cell k (by omega); have HB4 := Lib.hid hb4; clear ho4 hb4)
          go_roundw
          case rel =>
            have hgt : ∀ j, (us'.set k (.slice a4 rk.length c4)).getD j (.slice none 0 0) = if j = k then .slice a4 rk.length c4 else us'.getD j (.slice none 0 0) := fun j => by
              simp only [List.getD_eq_getElem?_getD, List.getElem?_set]
              by_cases h : k = j
              · subst h; simp [show k < us'.length by omega]
              · rw [if_neg h, if_neg (fun e => h e.symm)]
            refine ⟨k + 1, us'.set k (.slice a4 rk.length c4), by omega, by go_num, by simp [hl'], HOR4.out.store k _, fun j hj => ?_, fun j hj => ?_, (HBB.out.trans (HB4.out.mono HBB.out.size)).setCell (by exact hg2a) _⟩
            · rw [hgt]
              by_cases e : j = k
              · subst e
                rw [if_pos rfl, HRK.out]
                exact HOR4.out.setR (HO4.out.mono HBB.out.size)
              · rw [if_neg e]
                exact HOR4.out.setR ((HD.out j (by omega)).below HB4.out (Nat.le_refl _))
            · rw [hgt, if_neg (by omega)]
              exact HRE.out j (by omega)
          case measure => simp [intOf]; omega
        · have hku : k = us.length := by omega
          subst hku
          have HY : Hid (RowsPost w (ls.map (restL a)) (.returned (.slice a2 us.length c2)) wr) := ⟨_, us', rfl, hor.mono (by simp), ⟨by rw [hl', hul]; simp, fun j hj => by
            have hj2 : j < ls.length := by simpa using hj
            have := hdone j (by omega)
            rw [show (ls.map (restL a)).getD j [] = restL a (ls.getD j []) from by simp [List.getD, hj2]]
            exact this.mono (by simp)⟩, HB.out.trans (hbel.mono (by simp))⟩
          clear hor hdone hrest hbel
          go_wp2
          go_ret
          have h9 := HY.out
          rw [hul] at h9
          exact h9
    · have hc' : mayCnfB f = false := by simpa using hc
      have hF : underL a f = [] := by unfold underL; rw [hc', Bool.and_false]; rfl
      rw [hF]
      rw [hm] at hmay
      rw [hc'] at hcnf
      have HM := Lib.hid hmay
      have HC := Lib.hid hcnf
      have HB := Lib.hid hbel
      clear hm hc hc' hmay hcnf HA HR HA1 HR1 hbel hF
      go_enter Tryd.func13, Tryd.ntmps13
      go_wp2_with (first
        | (go_at_call 32; refine HM.out.mono ?_; rintro e w1 ⟨rfl, rfl⟩)
        | (go_at_call 33; refine HC.out.mono ?_; rintro e w1 ⟨rfl, rfl⟩))
      go_ret
      exact ⟨_, [], rfl, OwnR.nil _ _, ⟨rfl, fun j h => absurd h (Nat.not_lt_zero _)⟩, HB.out⟩
  · have hm' : mayB a = false := by simpa using hm
    have hF : underL a f = [] := by unfold underL; rw [hm']; rfl
    rw [hF]
    rw [hm'] at hmay
    have HM := Lib.hid hmay
    have HB := Lib.hid hbel
    clear hm hm' hmay hcnf HA HR HA1 HR1 hbel hF
    go_enter Tryd.func13, Tryd.ntmps13
    go_wp2_with (go_at_call 32; refine HM.out.mono ?_; rintro e w1 ⟨rfl, rfl⟩)
    go_ret
    exact ⟨_, [], rfl, OwnR.nil _ _, ⟨rfl, fun j h => absurd h (Nat.not_lt_zero _)⟩, HB.out⟩

end Go.Proofs.YtmhjpbhldaagmaaDoor
