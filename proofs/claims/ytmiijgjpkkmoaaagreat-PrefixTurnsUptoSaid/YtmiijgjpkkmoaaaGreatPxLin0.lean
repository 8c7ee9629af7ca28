/- prefix.Linear where there is no row; and for all. -/
import Derived.Test.YtmiijgjpkkmoaaaGreatPxLinN
import Derived.Shelf.SlSortCmp.NoneTotal
namespace Go.Proofs.YtmiijgjpkkmoaaaGreat
open Go.RowKit Go.Shelf Go.Sort Go.Lib
set_option linter.unusedVariables false
set_option linter.unusedSimpArgs false

set_option maxRecDepth 100000 in
theorem clone0D_any (a : Option Addr) (c : Nat) (w : World) (h : a = none → c = 0) : Calls Tryz.prog 40 #[.slice a 0 c] w fun e w' => ∃ a' c', e = .returned (.slice a' 0 c') ∧ Below w.heap.size w w' := by
  cases a with
  | none =>
    obtain rfl := h rfl
    go_enter Tryz.func40, Tryz.ntmps40
    have heq : ∀ W, (binOp .eql 27 (.slice none 0 0) (.slice none 0 0)).run Tryz.prog W = .ok (.bool true) W := fun W => by rfl
    go_wp2
    go_ret
    exact ⟨⟨_, _, rfl⟩, Below.refl _ _⟩
  | some ad =>
    clear h
    go_enter Tryz.func40, Tryz.ntmps40
    have heq : ∀ W, (binOp .eql 27 (.slice (some ad) 0 c) (.slice none 0 0)).run Tryz.prog W = .ok (.bool false) W := fun W => by rfl
    obtain ⟨i0, hi, hz0, hz1, hz2⟩ := info_parts info_dep
    have hrow : (w.alloc (.cells #[] 51)).ownsRow w.heap.size 51 2 (.slice (some ⟨w.heap.size, 0, none⟩) 0 0) 0 [] := ⟨rfl, .inr ⟨w.heap.size, 0, #[], rfl, Nat.le_refl _, World.alloc_heap_new w _, Nat.le_refl _, Nat.zero_le _, rfl, rfl⟩⟩
    go_wp2_with (at_builtin; go_loud (refine wpList_append_own _ rfl (.tmp 5) (.tmp 6) 27 rfl w.heap.size 51 i0 (.agg #[.int .i64 0, .slice none 0 0]) 2 32 Tryz.underlying27 hi hz0 hz1 hz2 rfl (by decide) (.slice (some ⟨w.heap.size, 0, none⟩) 0 0) 0 [] rfl hrow ad 0 c [] rfl (by simp) (fun j u hj => by simp at hj) (by simp) (by unfold maxLen; omega) (by omega) (by simp) ?_; intro v4 w4 hrow4 hg4 hnn))
    go_ret
    have hb4 : Below w.heap.size w w4 := ((Below.refl w.heap.size w).alloc (Nat.le_refl _) _).grown hg4 (by simp) (fun g hg => by
      have : w.heap.size = g := by simpa [Value.ownBlock] using hg
      omega)
    obtain ⟨hl4, ⟨rfl, h4⟩ | ⟨g, cap4, cur, rfl, hrest⟩⟩ := hrow4
    · exact ⟨⟨_, _, rfl⟩, hb4⟩
    · exact ⟨⟨_, _, rfl⟩, hb4⟩
set_option maxRecDepth 100000 in
theorem stable00_any (a : Option Addr) (c : Nat) (w : World) :
    Calls Tryz.prog 41 #[.slice a 0 c, .func (.func 42) #[] #[]] w fun e w' => e = .returned (.tuple #[]) ∧ w = w' := by
  have HI := fun W => AnyF.insertionSortCmpFunc_none Tryz.depIns a c (.func (.func 42) #[] #[]) W
  have HS : Calls Tryz.prog 74 #[.slice a 0 c, .int .i64 0, .func (.func 42) #[] #[]] w fun e w' => e = .returned (.tuple #[]) ∧ w = w' := by
    go_enter Tryz.func74, Tryz.ntmps74
    go_wp2
    go_loop [7, 8] (fun a b => a = .int .i64 0 ∧ b = .int .i64 20) (fun _ _ => 0)
    case atStart => exact ⟨rfl, rfl⟩
    case round =>
      obtain ⟨rfl, rfl⟩ := hrel
      go_wp2_with (go_at_call 95; refine (HI w).mono ?_; rintro e w1 ⟨rfl, rfl⟩)
      go_loop [6] (fun a => a = .int .i64 20) (fun _ => 0)
      case atStart => rfl
      case round =>
        obtain rfl := hrel
        go_wp2
        go_end0
        exact ⟨rfl, rfl⟩
  go_enter Tryz.func41, Tryz.ntmps41
  go_wp2_with (go_at_call 74; refine HS.mono ?_; rintro e w1 ⟨rfl, rfl⟩)
  go_end0
  exact ⟨rfl, rfl⟩

set_option maxRecDepth 100000 in
set_option maxHeartbeats 3200000 in
theorem linear0_any (vu ve vc : Value) (U : List Int) (C : List (List Int)) (w : World) (HU : IsInts w vu U) (HE : IsDeps w ve []) (HC : IsRows w vc C) (hm : mayDB U [] C = true) :
    Calls Tryz.prog 10 #[.agg #[vu, ve, vc]] w (LinPostN w U []) := by
  have hok := rows_ok (mayD_ok.1 hm).1
  have hb0 : Below w.heap.size w (w.alloc (.cells #[vu, ve, vc] 29)) := (Below.refl w.heap.size w).alloc (Nat.le_refl _) _
  have hM := pmayd_any vu ve vc U [] C (w.alloc (.cells #[vu, ve, vc] 29)) (HU.below hb0 (Nat.le_refl _)) (HE.below hb0 (Nat.le_refl _)) (HC.below hb0 (Nat.le_refl _)) (by unfold exOf; intro x hx; cases hx)
  rw [hm] at hM
  obtain ⟨a1, c1, rfl, _⟩ := HU.shape
  have hnil : ∃ a c, ve = .slice a 0 c ∧ (a = none → c = 0) := by
    obtain ⟨a, cap, rfl, ⟨_, h2⟩, _⟩ := HE
    exact ⟨a, cap, rfl, h2⟩
  obtain ⟨ad, c2, rfl, hn0⟩ := hnil
  obtain ⟨a3, c3, rfl, _⟩ := HC.shape
  have D : ∀ X, Below (w.heap.size + 1) (w.alloc (.cells #[.slice a1 U.length c1, .slice ad 0 c2, .slice a3 C.length c3] 29)) X → X.cell? ⟨w.heap.size, 0, none⟩ = some (.slice a1 U.length c1) ∧ X.cell? ⟨w.heap.size, 1, none⟩ = some (.slice ad 0 c2) ∧ Below w.heap.size w X ∧ w.heap.size + 1 ≤ X.heap.size := fun X hb =>
    ⟨(hb.cell (p := ⟨w.heap.size, 0, none⟩) (by simp)).trans (cell_fresh rfl), (hb.cell (p := ⟨w.heap.size, 1, none⟩) (by simp)).trans (cell_fresh rfl), hb0.trans (hb.mono (by omega)), by have := hb.size; simpa using this⟩
  rw [show (w.alloc (.cells #[.slice a1 U.length c1, .slice ad 0 c2, .slice a3 C.length c3] 29)).heap.size = w.heap.size + 1 by simp] at hM
  have HM := Lib.hid hM
  have HD := Lib.hid D
  have hUl := hok.univ
  have HCL : Hid (∀ X, Calls Tryz.prog 40 #[.slice ad 0 c2] X fun e w' => ∃ a' c', e = .returned (.slice a' 0 c') ∧ Below X.heap.size X w') := fun X => clone0D_any ad c2 X hn0
  have HWU : Hid (∀ X, Below w.heap.size w X → Calls Tryz.prog 44 #[.slice a1 U.length c1, .slice none 0 0] X (RetOwn X (withoutI U []))) := fun X hX =>
    without1_any _ _ U [] X (HU.below hX (Nat.le_refl _)) (IsInts.nil X) List.Pairwise.nil (by omega)
  have HFIN : Hid (∀ e w', (∃ v t, e = .returned (.tuple #[v, .int .i64 (linR [] U).2]) ∧ JoinSt w' w.heap.size v t ∧ shapeT t = (linR [] U).1 ∧ Below w.heap.size w w') → LinPostN w U [] e w') := by
    intro e w' h
    exact ⟨[], rfl, by simpa [byKey] using h⟩
  have HLR : Hid (linR [] U = joinA [(false, withoutI U [])]) := by
    show _ = _
    unfold linR
    rw [if_pos (by unfold chainB; simp)]
    rfl
  have HEL : Hid (∀ b ∈ ([] : List Blk) ++ [(false, withoutI U [])], b.2.length ≤ 17592186044416 ∧ In64 b.2) := fun b hb => by
    rw [List.nil_append, List.mem_singleton] at hb
    subst hb
    have := without_len U []
    exact ⟨by simp only; omega, without_64 _ HU.i64X⟩
  have HFL : Hid ((flatB [(false, withoutI U [])]).length ≤ 4000000) := by
    have h2 := without_len U []
    show _ ≤ _
    have h3 : (flatB [(false, withoutI U [])]).length = (withoutI U []).length := by unfold flatB; simp
    rw [h3]
    omega
  clear hM D HU HE HC hb0 hm hok hUl hn0
  generalize withoutI U [] = LU at *
  go_enter Tryz.func10, Tryz.ntmps10
  go_wp2_with (first
    | (go_at_call 39; refine HM.out.mono ?_; rintro e w1 ⟨rfl, hb1⟩; obtain ⟨d0, d1, hb01, hs1⟩ := HD.out w1 hb1)
    | (go_at_call 40; refine (HCL.out w1).mono ?_; rintro e w2 ⟨ax, cx, rfl, hb2⟩; have HB2 := Lib.hid (hb1.trans (hb2.mono (by omega))); obtain ⟨f0, f1, hb02, hs2⟩ := HD.out w2 HB2.out)
    | (go_at_call 41; refine (stable00_any ax cx w2).mono ?_; rintro e w3 ⟨rfl, rfl⟩))
  go_loop [5, 6, 19] (fun p b i => p = .slice none 0 0 ∧ b = .slice none 0 0 ∧ i = .int .i64 0) (fun _ _ _ => 0)
  case atStart => exact ⟨rfl, rfl, rfl⟩
  case round =>
    obtain ⟨rfl, rfl, rfl⟩ := hrel
    have HB02 := Lib.hid hb02
    have HRW : Hid (RowB w w2 w.heap.size (.slice none 0 0) []) := RowB.nil hb02 (Nat.le_refl _)
    go_wp2_with (first
      | (go_at_call 44; go_loud (refine (HWU.out w2 HB02.out).mono ?_; rintro e w5 ⟨u5, rfl, ho5, hb5⟩; obtain ⟨ua, uc, rfl⟩ := ho5.shapeA))
      | (at_builtin; go_loud (refine wpList_appBlk rfl (.tmp 43) (.tmp 49) rfl w.heap.size (.slice none 0 0) (.slice ua LU.length uc) [] false LU w5.heap.size rfl rfl (HRW.out.below' (hb5.alloc hb5.size _) (Nat.le_refl _)).row (cell_fresh rfl) (cell_fresh rfl) rfl (by simp) (by have h1 := hb5.size; simp; omega) ?_; intro v8 w8 hrow8 hg8; have HL8 := Lib.hid (lin_last (LP := []) (t := []) HRW.out HB02.out.size hb5 ho5 rfl HEL.out (by simp) hrow8 hg8); clear hrow8 hg8))
      | (go_at_call 24; refine (join1_any v8 [(false, LU)] w8 HL8.out.1 HFL.out).mono ?_; rintro e w9 ⟨v9, t9, rfl, hj9, hsh9, hb9⟩))
    go_ret2
    refine HFIN.out _ _ ?_
    rw [HLR.out]
    have h8 := HL8.out.2.size
    exact ⟨_, t9, rfl, hj9.mono (by omega), hsh9, HL8.out.2.trans (hb9.mono h8)⟩

theorem linearA_any (vu ve vc : Value) (U : List Int) (E : List (Int × List Int)) (C : List (List Int)) (w : World) (HU : IsInts w vu U) (HE : IsDeps w ve E) (HC : IsRows w vc C) (h64e : In64 (exOf E)) (hm : mayDB U E C = true) :
    Calls Tryz.prog 10 #[.agg #[vu, ve, vc]] w (LinPostN w U E) := by
  cases E with
  | nil => exact linear0_any vu ve vc U C w HU HE HC hm
  | cons x r => exact linearN_any vu ve vc U _ C w HU HE HC h64e (by simp) hm
end Go.Proofs.YtmiijgjpkkmoaaaGreat
