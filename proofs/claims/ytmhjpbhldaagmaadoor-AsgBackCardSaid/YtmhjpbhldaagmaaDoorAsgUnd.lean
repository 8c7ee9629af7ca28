/- asg.Under and the reference's. -/
import Derived.Test.YtmhjpbhldaagmaaDoorAsgCnf
import Derived.Test.YtmhjpbhldaagmaaDoorUnitsQ
namespace Go.Proofs.YtmhjpbhldaagmaaDoor
open Go.RowKit
set_option linter.unusedVariables false

/-- The values are the call's own slices, of these integers. -/
def RowsO (w : World) (B : Nat) (us : List Value) (ls : List (List Int)) : Prop := us.length = ls.length ∧ ∀ j, j < ls.length → Own w B (us.getD j (.slice none 0 0)) (ls.getD j [])
theorem OwnR.noO {w : World} {B B' : Nat} {v u : Value} {us : List Value} {xs : List Int} (h : OwnR w B v us) (k : Own w B' u xs) : ∀ g, v.ownBlock = some g → u.ownBlock ≠ some g := by
  intro g hg hu
  rcases h.2 with ⟨rfl, h2⟩ | ⟨g1, cap, cur, rfl, _, hg1, _⟩
  · cases hg
  · rcases k.2 with ⟨rfl, h2⟩ | ⟨g2, cap2, cur2, rfl, _, hg2, _⟩
    · cases hu
    · simp [Value.ownBlock] at hg hu
      subst hg; subst hu
      rw [hg1] at hg2
      simp only [Option.some.injEq, Obj.cells.injEq] at hg2
      exact absurd hg2.2.1 (by decide)
theorem OwnR.setR {w : World} {B B' g n c j : Nat} {u : Value} {us : List Value} {xs : List Int} {x : Value} (h : OwnR w B (.slice (some ⟨g, 0, none⟩) n c) us) (ho : Own w B' u xs) : Own (w.setCell ⟨g, j, none⟩ x) B' u xs :=
  (Kept.setCell w ⟨g, j, none⟩ x).row ho fun k hk e => h.noO ho g rfl (by rw [hk]; exact congrArg some e)
theorem OwnR.shape' {w : World} {B : Nat} {v : Value} {us : List Value} (h : OwnR w B v us) : ∃ a cap, v = .slice a us.length cap := by
  rcases h.2 with ⟨rfl, h2⟩ | ⟨g, cap, cur, rfl, _⟩
  · exact ⟨none, 0, by rw [h2]⟩
  · exact ⟨_, _, rfl⟩
theorem OwnR.at {w : World} {B : Nat} {v : Value} {us : List Value} (h : OwnR w B v us) (hne : 0 < us.length) : ∃ g cap, v = .slice (some ⟨g, 0, none⟩) us.length cap ∧ B ≤ g ∧ g < w.heap.size := by
  rcases h.2 with ⟨rfl, h2⟩ | ⟨g, cap, cur, rfl, hB, hg, rest⟩
  · omega
  · exact ⟨g, cap, rfl, hB, (Array.getElem?_eq_some_iff.1 hg).1⟩
/-- What Under hands back. -/
def RowsPost (w : World) (r : List (List Int)) (e : Ending) (w' : World) : Prop := ∃ v us, e = .returned v ∧ OwnR w' w.heap.size v us ∧ RowsO w' w.heap.size us r ∧ Below w.heap.size w w'
def underL (a : List Int) (f : List (List Int)) : List (List Int) := if mayB a && mayCnfB f then (f.filter (fun c => judgeL 1 2 a c != 1)).map (restL a) else []

/-- The function that is handed over answers p of a number of the list, and leaves the world. -/
def TellsP (P : Program) (g : Nat) (cb : Array Value) (p : Int → Bool) (l : List Int) (w0 : World) : Prop :=
  ∀ W, Below w0.heap.size w0 W → ∀ x ∈ l, Calls P g (#[.int .i64 x] ++ cb) W fun e w' => e = .returned (.bool (p x)) ∧ W = w'
set_option maxHeartbeats 1600000 in
set_option maxRecDepth 100000 in
theorem choseni_any (p : Int → Bool) (g : Nat) (cb : Array Value) (v : Value) (l : List Int) (w : World)
    (eg : ∀ args w, (callFunc g args).run Tryd.prog w = .ok (.enter g args) w) (ht : TellsP Tryd.prog g cb p l w) (H : IsInts w v l) :
    Calls Tryd.prog 41 #[v, .func (.func g) #[] cb] w (RetOwn w (l.filter p)) := by
  obtain ⟨a, cap, rfl, _, _, hl, h64, b, off, ha, hc⟩ := H
  have HC := Lib.hid hc
  have HTE := Lib.hid ht
  clear hc ht
  go_enter Tryd.func41, Tryd.ntmps41
  go_wp2
  go_loopw [5, 10] (fun out i wr => ∃ k : Nat, k ≤ l.length ∧ i = .int .i64 k ∧ Own wr w.heap.size out ((l.take k).filter p) ∧ Below w.heap.size w wr) (fun _ i _ => l.length - (intOf i).toNat)
  case atStart => exact ⟨0, Nat.zero_le _, rfl, Own.nil _ _, Below.refl _ _⟩
  case round =>
    obtain ⟨k, hk, rfl, hown, hbel⟩ := hrel
    by_cases hlt : k < l.length
    · obtain ⟨rfl, hb⟩ := ha (by intro h; simp [h] at hlt)
      have hy := (hbel.cell (p := ⟨b, off + k, none⟩) hb).trans (HC.out k hlt)
      have hy1 := (h64.at k hlt).1
      have hy2 := (h64.at k hlt).2
      have hle := filter_take_le p l k hk
      have hsz := hbel.size
      have hct := HTE.out wr hbel _ (getD_mem hlt)
      have HO := Lib.hid hown
      have HB := Lib.hid hbel
      by_cases hp : p (l.getD k 0) = true
      · have HT := Lib.hid (filter_take_hit hlt hp)
        rw [hp] at hct
        have HCT := Lib.hid hct
        clear hp ha hct hown hbel
        generalize l.getD k 0 = y at *
        go_wp2_with fail
        refine HCT.out.mono ?_
        rintro e w1 ⟨rfl, rfl⟩
        go_wp2_with (at_builtin; refine wpList_app1 rfl _ _ rfl w.heap.size _ _ y wr.heap.size rfl rfl (HO.out.alloc _) (by simp) (by omega) (by simp; omega) ?_; intro v' w' hown' hg')
        go_roundw
        case rel => exact ⟨k + 1, by omega, by go_num, by rw [HT.out]; exact hown', below_app (HB.out.alloc (by omega) _) (HO.out.alloc _) (by simp; omega) hg'⟩
        case measure => simp [intOf]; omega
      · have hp' : p (l.getD k 0) = false := by simpa using hp
        have HT := Lib.hid (filter_take_miss hlt hp')
        rw [hp'] at hct
        have HCT := Lib.hid hct
        clear hp hp' ha hct hown hbel
        generalize l.getD k 0 = y at *
        go_wp2_with fail
        refine HCT.out.mono ?_
        rintro e w1 ⟨rfl, rfl⟩
        go_wp2
        go_roundw
        case rel => exact ⟨k + 1, by omega, by go_num, by rw [HT.out]; exact HO.out, HB.out⟩
        case measure => simp [intOf]; omega
    · have hown2 := hown
      rw [List.take_of_length_le (by omega)] at hown2
      clear hown
      go_wp2
      go_ret
      exact ⟨_, rfl, hown2, hbel⟩

/-- .. of a list of f. -/
def TellsC (P : Program) (g : Nat) (cb : Array Value) (p : List Int → Bool) (f : List (List Int)) (w0 : World) : Prop :=
  ∀ W, Below w0.heap.size w0 W → ∀ c ∈ f, ∀ u, IsInts W u c → Calls P g (#[u] ++ cb) W fun e w' => e = .returned (.bool (p c)) ∧ Below W.heap.size W w'
def ChosenR (w : World) (r : List (List Int)) (e : Ending) (w' : World) : Prop := ∃ v us, e = .returned v ∧ OwnR w' w.heap.size v us ∧ RowsAre w us r ∧ Below w.heap.size w w'
theorem filterR_hit {p : List Int → Bool} {f : List (List Int)} {k : Nat} (h : k < f.length) (hp : p (f.getD k []) = true) : (f.take (k + 1)).filter p = (f.take k).filter p ++ [f.getD k []] := by
  rw [rows_take_succ h, List.filter_append, List.filter_cons, if_pos hp]; rfl
theorem filterR_miss {p : List Int → Bool} {f : List (List Int)} {k : Nat} (h : k < f.length) (hp : p (f.getD k []) = false) : (f.take (k + 1)).filter p = (f.take k).filter p := by
  rw [rows_take_succ h, List.filter_append, List.filter_cons, if_neg (by rw [hp]; simp)]; simp
set_option maxHeartbeats 1600000 in
set_option maxRecDepth 100000 in
theorem chosenr_any (p : List Int → Bool) (g : Nat) (cb : Array Value) (v : Value) (f : List (List Int)) (w : World) (hfs : f.length ≤ 20000)
    (eg : ∀ args w, (callFunc g args).run Tryd.prog w = .ok (.enter g args) w) (ht : TellsC Tryd.prog g cb p f w) (H : IsRows w v f) :
    Calls Tryd.prog 38 #[v, .func (.func g) #[] cb] w (ChosenR w (f.filter p)) := by
  obtain ⟨av, cap, rfl, hfl⟩ := H.shape
  have HRR := Lib.hid H
  have HTE := Lib.hid ht
  clear H ht
  go_enter Tryd.func38, Tryd.ntmps38
  go_wp2
  go_loopw [5, 10] (fun out i wr => ∃ (k : Nat) (us : List Value), k ≤ f.length ∧ i = .int .i64 k ∧ OwnR wr w.heap.size out us ∧ RowsAre w us ((f.take k).filter p) ∧ us.length ≤ k ∧ Below w.heap.size w wr) (fun _ i _ => f.length - (intOf i).toNat)
  case atStart => exact ⟨0, [], Nat.zero_le _, rfl, OwnR.nil _ _, RowsAre.nil _, by simp, Below.refl _ _⟩
  case round =>
    obtain ⟨k, us, hk, rfl, hown, hra, hul, hbel⟩ := hrel
    have hsz := hbel.size
    by_cases hlt : k < f.length
    · obtain ⟨b, off, u, rfl, hbk, hu, HU⟩ := HRR.out.at hlt
      have hu1 := (hbel.cell (p := ⟨b, off + k, none⟩) hbk).trans hu
      have hct := HTE.out wr hbel _ (rows_getD_mem hlt) u (HU.below hbel (Nat.le_refl _))
      have HO := Lib.hid hown
      have HB := Lib.hid hbel
      have HRA := Lib.hid hra
      have HUU := Lib.hid HU
      obtain ⟨au, cu, rfl⟩ := HU.shape
      by_cases hp : p (f.getD k []) = true
      · have HT := Lib.hid (filterR_hit hlt hp)
        rw [hp] at hct
        have HCT := Lib.hid hct
        clear hp hct hown hbel hra hu HU
        generalize f.getD k [] = c at *
        go_wp2_with fail
        refine HCT.out.mono ?_
        rintro e w1 ⟨rfl, hb1⟩
        have HO1 := Lib.hid (HO.out.below hb1 (Nat.le_refl _))
        have HB1 := Lib.hid (HB.out.trans (hb1.mono hsz))
        have hs1 := HB1.out.size
        clear hb1
        go_wp2_with (at_builtin; refine wpList_appR1 rfl (.tmp 17) (.tmp 19) rfl w.heap.size _ us (.slice au c.length cu) w1.heap.size rfl rfl (HO1.out.alloc _) (by simp) rfl (by omega) (by simp <;> omega) ?_; intro v' w' hown' hg')
        go_roundw
        case rel => exact ⟨k + 1, _, by omega, by go_num, hown', by rw [HT.out]; exact HRA.out.snoc HUU.out, by simp; omega, belowR (HB1.out.alloc (by omega) _) (HO1.out.alloc _) (by simp; omega) hg'⟩
        case measure => simp [intOf]; omega
      · have hp' : p (f.getD k []) = false := by simpa using hp
        have HT := Lib.hid (filterR_miss hlt hp')
        rw [hp'] at hct
        have HCT := Lib.hid hct
        clear hp hp' hct hown hbel hra hu HU
        generalize f.getD k [] = c at *
        go_wp2_with fail
        refine HCT.out.mono ?_
        rintro e w1 ⟨rfl, hb1⟩
        have HO1 := Lib.hid (HO.out.below hb1 (Nat.le_refl _))
        have HB1 := Lib.hid (HB.out.trans (hb1.mono hsz))
        clear hb1
        go_wp2
        go_roundw
        case rel => exact ⟨k + 1, us, by omega, by go_num, HO1.out, by rw [HT.out]; exact HRA.out, by omega, HB1.out⟩
        case measure => simp [intOf]; omega
    · rw [List.take_of_length_le (by omega)] at hra
      have HR : Hid (ChosenR w (f.filter p) (.returned u5) wr) := ⟨_, us, rfl, hown, hra, hbel⟩
      clear hown hra hbel
      go_wp2
      go_ret
      exact HR.out

end Go.Proofs.YtmhjpbhldaagmaaDoor
