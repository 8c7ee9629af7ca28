/- Joined texts: CxGFun, CxAreG, CxUsers, CxUsersW, CxTkS, CxTaken, CxOrd. -/
import Derived.Test.YtafenijbglcppaaK06
import Derived.Test.YtafenijbglcppaaK35
import Derived.Test.YtafenijbglcppaaK14
import Derived.Deep.OwnRows
import Derived.Deep.CutRange
import Derived.Deep.DeepCutAuto
import Derived.Deep.LoopGhost
import Derived.Test.YtafenijbglcppaaK03
/- slices.IndexFunc and slices.ContainsFunc over gates. -/
namespace Go.Proofs.Ytafenijbglcppaa
open Go.RowKit
set_option linter.unusedVariables false
set_option linter.unusedSimpArgs false

def TellsG (P : Program) (g : Nat) (cb : Array Value) (p : Gt → Bool) (l : List Gt) (w : World) : Prop :=
  ∀ W u (y : Gt), Below w.heap.size w W → y ∈ l → IsInts W u y.2.2 → Calls P g (#[.agg #[.int .i64 y.1, .int .u8 y.2.1, u]] ++ cb) W fun e w' => e = .returned (.bool (p y)) ∧ Below W.heap.size W w'
def IdxG (p : Gt → Bool) (l : List Gt) (w : World) (e : Ending) (w' : World) : Prop := ∃ r : Int, e = .returned (.int .i64 r) ∧ Below w.heap.size w w' ∧ decide (0 ≤ r) = l.any p

set_option maxHeartbeats 1600000 in
set_option maxRecDepth 100000 in
theorem indexg_any (p : Gt → Bool) (g : Nat) (cb : Array Value) (v : Value) (l : List Gt) (w : World)
    (eg : ∀ args w, (callFunc g args).run Try.prog w = .ok (.enter g args) w) (ht : TellsG Try.prog g cb p l w) (H : IsGates w v l) :
    Calls Try.prog 59 #[v, .func (.func g) #[] cb] w (IdxG p l w) := by
  have HH := Lib.hid H
  obtain ⟨a, cap, rfl, hll⟩ := H.shape
  have HTE := Lib.hid ht
  clear ht H
  go_enter Try.func59, Try.ntmps59
  go_wp2
  go_loopw [8] (fun i wr => ∃ k : Nat, k ≤ l.length ∧ i = .int .i64 k ∧ Below w.heap.size w wr ∧ Hid (∀ x ∈ l.take k, p x = false)) (fun i _ => l.length - (intOf i).toNat)
  case atStart => exact ⟨0, Nat.zero_le _, rfl, Below.refl _ _, by intro x hx; simp at hx⟩
  case round =>
    obtain ⟨k, hk, rfl, hbel, hn⟩ := hrel
    have HB := Lib.hid hbel
    have hszr := hbel.size
    clear hbel
    by_cases hlt : k < l.length
    · obtain ⟨pb, off, u, rfl, hb, hcx0, hck0, hcu0, HU0, hrg⟩ := HH.out.at hlt
      have hcx := (HB.out.cell (p := ⟨pb, off + k * 3, none⟩) hb).trans hcx0
      have hck := (HB.out.cell (p := ⟨pb, off + k * 3 + 1, none⟩) hb).trans hck0
      have hcu := (HB.out.cell (p := ⟨pb, off + k * 3 + 2, none⟩) hb).trans hcu0
      have HMEM : Hid (l.getD k dG ∈ l) := by show _ ∈ _; simp [List.getD, hlt]
      have HTS := Lib.hid (gates_take hlt)
      have HCL := Lib.hid (HTE.out wr u _ HB.out HMEM.out (HU0.below HB.out (Nat.le_refl _)))
      have hk0 : (0 : Int) ≤ (k : Int) := by omega
      have hk1 : (k : Int) < (l.length : Int) := by omega
      have HKL := Lib.hid hlt
      clear hcx0 hck0 hcu0 HU0 hrg hlt
      generalize l.getD k dG = y at *
      obtain ⟨y1, y2, y3⟩ := y
      simp only at hcx hck hcu HCL
      cases hp : p (y1, y2, y3)
      · have HP : Hid (∀ z ∈ l.take (k + 1), p z = false) := by
          intro z hz
          rw [HTS.out] at hz
          rcases List.mem_append.1 hz with hz | hz
          · exact hn.out z hz
          · rw [List.mem_singleton] at hz; rw [hz]; exact hp
        rw [hp] at HCL
        clear hp hn
        go_wp2_with fail
        refine HCL.out.mono ?_
        rintro e w1 ⟨rfl, hb1⟩
        have HB1 := Lib.hid (HB.out.trans (hb1.mono hszr))
        clear hb1
        go_wp2
        go_roundw
        case rel => exact ⟨k + 1, HKL.out, by go_num, HB1.out, HP.out⟩
        case measure => have := HKL.out; simp [intOf]; omega
      · have HP : Hid (l.any p = true) := by show _ = _; rw [List.any_eq_true]; exact ⟨_, HMEM.out, hp⟩
        rw [hp] at HCL
        clear hp hn
        go_wp2_with fail
        refine HCL.out.mono ?_
        rintro e w1 ⟨rfl, hb1⟩
        have HB1 := Lib.hid (HB.out.trans (hb1.mono hszr))
        clear hb1
        go_wp2
        go_ret
        exact ⟨k, rfl, HB1.out, by rw [HP.out]; simp⟩
    · have HP : Hid (l.any p = false) := by
        show _ = _
        rw [List.any_eq_false]
        intro x hx
        rw [hn.out x (by rw [List.take_of_length_le (by omega)]; exact hx)]
        simp
      go_wp2
      go_ret
      exact ⟨-1, rfl, HB.out, by rw [HP.out]; rfl⟩
set_option maxHeartbeats 800000 in
set_option maxRecDepth 100000 in
theorem containsg_any (p : Gt → Bool) (g : Nat) (cb : Array Value) (v : Value) (l : List Gt) (w : World)
    (eg : ∀ args w, (callFunc g args).run Try.prog w = .ok (.enter g args) w) (ht : TellsG Try.prog g cb p l w) (H : IsGates w v l) :
    Calls Try.prog 35 #[v, .func (.func g) #[] cb] w fun e w' => e = .returned (.bool (l.any p)) ∧ Below w.heap.size w w' := by
  have hc := indexg_any p g cb v l w eg ht H
  go_enter Try.func35, Try.ntmps35
  go_wp2_with fail
  refine hc.mono ?_
  rintro e w1 ⟨r, rfl, hq1, hr⟩
  have HR := Lib.hid hr
  clear hr
  by_cases h : 0 ≤ r
  · go_wp2
    go_ret
    exact ⟨ret_bool (by rw [← HR.out]; simp [h]), hq1⟩
  · go_wp2
    go_ret
    exact ⟨ret_bool (by first | (rw [← HR.out]; done) | (rw [← HR.out]; simp [h])), hq1⟩
end Go.Proofs.Ytafenijbglcppaa

/- circ.areGates. -/
namespace Go.Proofs.Ytafenijbglcppaa
open Go.RowKit
set_option linter.unusedVariables false
set_option linter.unusedSimpArgs false

set_option maxHeartbeats 1600000 in
set_option maxRecDepth 100000 in
theorem careg1_any (b bx : Nat) (S : List Int) (u : Value) (y : Gt) (w : World) (hS : SetI w b S) (hc : w.cell? ⟨bx, 0, none⟩ = some (.map (some b))) (hbx : bx < w.heap.size) (HU : IsInts w u y.2.2) :
    Calls Try.prog 36 #[.agg #[.int .i64 y.1, .int .u8 y.2.1, u], .pointer (some ⟨bx, 0, none⟩)] w fun e w' => e = .returned (.bool (!gIn S y)) ∧ Below w.heap.size w w' := by
  obtain ⟨y1, y2, y3⟩ := y
  simp only at HU ⊢
  obtain ⟨W, hW⟩ : ∃ W, w.alloc (.cells #[.int .i64 y1, .int .u8 y2, u] 34) = W := ⟨_, rfl⟩
  have hb0 : Below w.heap.size w W := by rw [← hW]; exact (Below.refl w.heap.size w).alloc (Nat.le_refl _) _
  have hz : W.heap.size = w.heap.size + 1 := by rw [← hW]; simp
  have hh : W.heap[w.heap.size]? = some (.cells #[.int .i64 y1, .int .u8 y2, u] 34 (0, 0)) := by rw [← hW]; exact heap_hit rfl
  have HGX : Hid (∀ X, Below W.heap.size W X → X.cell? ⟨w.heap.size, 0, none⟩ = some (.int .i64 y1) ∧ X.cell? ⟨w.heap.size, 1, none⟩ = some (.int .u8 y2) ∧ X.cell? ⟨w.heap.size, 2, none⟩ = some u ∧ X.cell? ⟨bx, 0, none⟩ = some (.map (some b))) := fun X hX => by
    have h1 := (hX.block w.heap.size (by omega)).trans hh
    exact ⟨block_cell h1 rfl, block_cell h1 rfl, block_cell h1 rfl, (hX.cell (p := ⟨bx, 0, none⟩) (by show bx < _; omega)).trans ((hb0.cell (p := ⟨bx, 0, none⟩) hbx).trans hc)⟩
  have HUW := Lib.hid (HU.below hb0 (Nat.le_refl _))
  have HSW := Lib.hid (hS.below hb0 (Nat.le_refl _))
  have HFT := Lib.hid (cfits_any y1 y2 u y3 W HUW.out)
  have HAO : Hid (∀ X, Below W.heap.size W X → Calls Try.prog 19 #[u, .map (some b)] X fun e w' => e = .returned (.bool (y3.all (fun x => decide (varC x ∈ S)))) ∧ Below X.heap.size X w') := fun X hX =>
    careof_any b S _ y3 X (HSW.out.below hX (Nat.le_refl _)) (HUW.out.below hX (Nat.le_refl _))
  have HGI : Hid (gIn S (y1, y2, y3) = (fitsB y2 y3.length && y3.all (fun x => decide (varC x ∈ S)))) := rfl
  have HB0 := Lib.hid hb0
  have HW := Lib.hid hW
  obtain ⟨ua, uc, rfl⟩ := HU.shape
  have hsz : w.heap.size ≤ W.heap.size := by omega
  clear hS hc HU hW hb0 hh
  generalize gIn S (y1, y2, y3) = r at *
  generalize y3.all (fun x => decide (varC x ∈ S)) = t at *
  go_enter Try.func36, Try.ntmps36
  go_upto_region 1 with fail
  rw [HW.out]
  obtain ⟨p0, p1, p2, p3⟩ := HGX.out W (Below.refl _ _)
  cases hf : fitsB y2 y3.length with
  | false =>
    rw [hf] at HFT HGI
    clear hf HAO
    go_wp2_with (go_at_call 37; refine HFT.out.mono ?_; rintro e w1 ⟨rfl, hb1⟩; obtain ⟨p0, p1, p2, p3⟩ := HGX.out w1 hb1)
    go_ret
    exact ⟨ret_bool (by rw [HGI.out]; rfl), HB0.out.trans (hb1.mono hsz)⟩
  | true =>
    rw [hf] at HFT HGI
    clear hf
    go_wp2_with (first
      | (go_at_call 37; refine HFT.out.mono ?_; rintro e w1 ⟨rfl, hb1⟩; have HB1 := Lib.hid hb1; clear p0 p1 p2 p3 hb1; obtain ⟨p0, p1, p2, p3⟩ := HGX.out w1 HB1.out)
      | (go_at_call 19; refine (HAO.out w1 HB1.out).mono ?_; rintro e w2 ⟨rfl, hb2⟩))
    go_ret
    exact ⟨ret_bool (by rw [HGI.out]; simp), HB0.out.trans ((HB1.out.trans (hb2.mono HB1.out.size)).mono hsz)⟩

set_option maxHeartbeats 3200000 in
set_option maxRecDepth 100000 in
theorem areg_any (vi vg : Value) (ins : List Int) (gs : List Gt) (w : World) (HI : IsInts w vi ins) (HG : IsGates w vg gs) (hi : ins.length < 1000000) (hg : gs.length < 1000000) :
    Calls Try.prog 14 #[vi, vg] w fun e w' => e = .returned (.bool (looseN ins gs)) ∧ Below w.heap.size w w' := by
  obtain ⟨W, hW⟩ : ∃ W, (w.alloc (.map #[] 0)).alloc (.cells #[.map (some w.heap.size)] 57) = W := ⟨_, rfl⟩
  have e1 : (w.alloc (.map #[] 0)).heap.size = w.heap.size + 1 := by simp
  have hz : W.heap.size = w.heap.size + 2 := by rw [← hW]; simp
  have hb0 : Below w.heap.size w W := by rw [← hW]; exact ((Below.refl w.heap.size w).alloc (Nat.le_refl _) _).alloc (by simp) _
  have hs0 : SetI W w.heap.size [] := by rw [← hW]; exact (SetI.made w).kept (Kept.alloc (fun _ => False) _ _) (fun h => h)
  have hc0 : W.cell? ⟨w.heap.size + 1, 0, none⟩ = some (.map (some w.heap.size)) := by rw [← hW, ← e1]; exact cell_fresh rfl
  have HW := Lib.hid hW
  have HB0 := Lib.hid hb0
  have HS0 := Lib.hid hs0
  have HC0 := Lib.hid hc0
  have HIW := Lib.hid HI
  have HGW := Lib.hid HG
  have HGB := Lib.hid HG.bd
  have hmm := @run_makeMap Try.prog
  obtain ⟨ia, ic, rfl⟩ := HI.shape
  obtain ⟨ga, gc, rfl, _⟩ := HG.shape
  have h64 : Hid (In64 ins) := by obtain ⟨_, _, _, _, _, _, g, _⟩ := HI; exact g
  clear HI HG hW hb0 hs0 hc0 e1
  go_enter Try.func14, Try.ntmps14
  go_upto_region 2 with fail
  rw [HW.out]
  clear hmm
  obtain ⟨n, hn⟩ : ∃ n, w.heap.size = n := ⟨_, rfl⟩
  have HN := Lib.hid hn
  rw [hn] at HB0 HS0 HC0 hz ⊢
  clear hn HW
  go_wp2
  go_loopw [13] (fun i wr => ∃ k : Nat, k ≤ ins.length ∧ i = .int .i64 k ∧ SetI wr n (ins.take k) ∧ wr.cell? ⟨n + 1, 0, none⟩ = some (.map (some n)) ∧ Below n w wr ∧ n + 2 ≤ wr.heap.size ∧ Hid (varsOk (ins.take k))) (fun i _ => ins.length - (intOf i).toNat)
  case atStart => exact ⟨0, Nat.zero_le _, rfl, HS0.out, HC0.out, HB0.out, by omega, varsOk_nil⟩
  case round =>
    clear HS0 HC0 HB0
    obtain ⟨k, hk, rfl, hset, hcell, hbel, hszr, HVO⟩ := hrel
    have HS := Lib.hid hset
    have HB := Lib.hid hbel
    have HC := Lib.hid hcell
    clear hset hbel
    by_cases hlt : k < ins.length
    · obtain ⟨b, off, rfl, hb, hcx0⟩ := HIW.out.cellY hlt
      have hcx := (HB.out.cell (p := ⟨b, off + k, none⟩) (by rw [← HN.out]; exact hb)).trans hcx0
      have HTK : Hid (ins.take (k + 1) = ins.take k ++ [ins.getD k 0]) := by show _ = _; rw [List.take_succ_eq_append_getElem hlt]; simp [List.getD, hlt]
      have HOF := Lib.hid (fun h => ins_off (gs := gs) hlt h)
      have hx := h64.out _ (ints_getD_mem hlt)
      have HKL := Lib.hid hlt
      have hk0 : (0 : Int) ≤ (k : Int) := by omega
      have hk1 : (k : Int) < (ins.length : Int) := by omega
      have hk2 : (k : Int) < 4000001 := by omega
      have hlk : (ins.take k).length < 4000000 := by rw [List.length_take]; omega
      clear hcx0 hlt hb
      generalize ins.getD k 0 = x at *
      generalize ins.take k = S at *
      cases hE : entB S x with
      | false =>
        have HR := Lib.hid (HOF.out hE)
        have HCL := Lib.hid (center_no n S x wr HS.out hlk hx.1 hx.2 hE)
        clear hE hx hlk
        go_wp2_with (go_at_call 34; refine HCL.out.mono ?_; rintro e w1 ⟨rfl, rfl⟩)
        go_ret
        exact ⟨ret_bool HR.out.symm, by rw [HN.out]; exact HB.out⟩
      | true =>
        have HV2 : Hid (varsOk (ins.take (k + 1))) := by show varsOk _; rw [HTK.out, varsOk_snoc]; exact ⟨HVO.out, hE⟩
        have HCL := Lib.hid (center_yes n S x wr HS.out hlk hx.1 hx.2 hE)
        clear hE hx hlk
        go_wp2_with (go_at_call 34; refine HCL.out.mono ?_; rintro e w1 ⟨rfl, hs1, hk1x⟩; have HS1 := Lib.hid hs1; have HK1 := Lib.hid hk1x; clear hs1 hk1x)
        go_roundw
        case rel => exact ⟨k + 1, HKL.out, by go_num, by rw [HTK.out]; exact HS1.out, (HK1.out.cell (p := ⟨n + 1, 0, none⟩) (by show n + 1 < _; omega) (by simp)).trans HC.out, HB.out.trans (HK1.out.below (by omega) (fun i hi e => by omega)), by have := HK1.out.size; omega, HV2.out⟩
        case measure => have := HKL.out; simp [intOf]; omega
    · have HK : Hid (k = ins.length) := by show _ = _; omega
      have HS1 : Hid (SetI wr n ins) := by have h := HS.out; rw [HK.out, List.take_length] at h; exact h
      have HV1 : Hid (varsOk ins) := by have h := HVO.out; rw [HK.out, List.take_length] at h; exact h
      clear HVO HS hcell
      go_wp2
      generalize wr = wz at *
      go_loopw [24] (fun i wr => ∃ k : Nat, k ≤ gs.length ∧ i = .int .i64 k ∧ SetI wr n (ins ++ gv (gs.take k)) ∧ wr.cell? ⟨n + 1, 0, none⟩ = some (.map (some n)) ∧ Below n w wr ∧ n + 2 ≤ wr.heap.size ∧ Hid (varsOk (ins ++ gv (gs.take k)))) (fun i _ => gs.length - (intOf i).toNat)
      case atStart => exact ⟨0, Nat.zero_le _, rfl, by simpa [gv] using HS1.out, HC.out, HB.out, by omega, by show varsOk _; simpa [gv] using HV1.out⟩
      case round =>
        clear HS1 HV1 HC HB HK hszr
        obtain ⟨k, hk, rfl, hset, hcell, hbel, hszr, HVO⟩ := hrel
        have HS := Lib.hid hset
        have HB := Lib.hid hbel
        have HC := Lib.hid hcell
        clear hset hbel hcell
        by_cases hlt : k < gs.length
        · obtain ⟨pb, off, u, rfl, hb, hcx0, hck0, hcu0, HU0, hrg⟩ := HGW.out.at hlt
          rw [HN.out] at hb
          have hcx := (HB.out.cell (p := ⟨pb, off + k * 3, none⟩) hb).trans hcx0
          have hck := (HB.out.cell (p := ⟨pb, off + k * 3 + 1, none⟩) hb).trans hck0
          have hcu := (HB.out.cell (p := ⟨pb, off + k * 3 + 2, none⟩) hb).trans hcu0
          have HTK : Hid (ins ++ gv (gs.take (k + 1)) = ins ++ gv (gs.take k) ++ [(gs.getD k dG).1]) := by show _ = _; rw [gv_take hlt, List.append_assoc]
          obtain ⟨ua, uc, rfl⟩ := HU0.shape
          have HOF := Lib.hid (fun h => gv_off (ins := ins) hlt h)
          have HKL := Lib.hid hlt
          have hk0 : (0 : Int) ≤ (k : Int) := by omega
          have hk1 : (k : Int) < (gs.length : Int) := by omega
          have hk2 : (k : Int) < 4000001 := by omega
          have hlk : (ins ++ gv (gs.take k)).length < 4000000 := by rw [List.length_append]; unfold gv; rw [List.length_map, List.length_take]; omega
          clear hcx0 hck0 hcu0 HU0 hlt
          generalize gs.getD k dG = y at *
          obtain ⟨y1, y2, y3⟩ := y
          simp only at hcx hck hcu hrg HTK HOF
          have hx := hrg.1
          clear hrg
          generalize y3.length = yl at *
          obtain ⟨wa, hwa⟩ : ∃ wa, wr.alloc (.cells #[.int .i64 y1, .int .u8 y2, .slice ua yl uc] 34) = wa := ⟨_, rfl⟩
          have ha : Kept (fun _ => False) wr wa := by rw [← hwa]; exact Kept.alloc _ _ _
          have g0 : wa.cell? ⟨wr.heap.size, 0, none⟩ = some (.int .i64 y1) := by rw [← hwa]; exact cell_fresh rfl
          have hza : wa.heap.size = wr.heap.size + 1 := by rw [← hwa]; simp
          have HSA := Lib.hid (HS.out.kept ha (fun h => h))
          have c0 := (ha.cell (p := ⟨n + 1, 0, none⟩) (by show n + 1 < _; omega) (fun h => h)).trans HC.out
          have HBA := Lib.hid (HB.out.trans (ha.below (by omega) (fun _ _ h => h)))
          have HCA := Lib.hid c0
          have HWA := Lib.hid hwa
          clear ha hwa
          go_upto_region 11 with fail
          rw [HWA.out]
          clear hcx hck hcu HWA HS HC HB
          generalize wr.heap.size = gb at *
          generalize ins ++ gv (gs.take k) = S at *
          cases hE : entB S y1 with
          | false =>
            have HR := Lib.hid (HOF.out hE)
            have HCL := Lib.hid (center_no n S y1 wa HSA.out hlk hx.1 hx.2 hE)
            clear hE hx hlk
            go_wp2_with (go_at_call 34; refine HCL.out.mono ?_; rintro e w1 ⟨rfl, rfl⟩)
            go_ret
            exact ⟨ret_bool HR.out.symm, by rw [HN.out]; exact HBA.out⟩
          | true =>
            have HV2 : Hid (varsOk (S ++ [y1])) := varsOk_snoc.2 ⟨HVO.out, hE⟩
            have HCL := Lib.hid (center_yes n S y1 wa HSA.out hlk hx.1 hx.2 hE)
            clear hE hx hlk
            go_wp2_with (go_at_call 34; refine HCL.out.mono ?_; rintro e w1 ⟨rfl, hs1, hk1x⟩; have HS1 := Lib.hid hs1; have HK1 := Lib.hid hk1x; clear hs1 hk1x)
            go_roundw
            case rel => exact ⟨k + 1, HKL.out, by go_num, by rw [HTK.out]; exact HS1.out, (HK1.out.cell (p := ⟨n + 1, 0, none⟩) (by show n + 1 < _; omega) (by simp)).trans HCA.out, HBA.out.trans (HK1.out.below (by omega) (fun i hi e => by omega)), by have := HK1.out.size; omega, by rw [HTK.out]; exact HV2⟩
            case measure => have := HKL.out; simp [intOf]; omega
        · have HK : Hid (k = gs.length) := by show _ = _; omega
          have HS1 : Hid (SetI wr n (ins ++ gv gs)) := by have h := HS.out; rw [HK.out, List.take_length] at h; exact h
          have HV1 : Hid (varsOk (ins ++ gv gs)) := by have h := HVO.out; rw [HK.out, List.take_length] at h; exact h
          have HLO := Lib.hid (loose_on HV1.out)
          have HTE : TellsG Try.prog 36 #[.pointer (some ⟨n + 1, 0, none⟩)] (fun y => !gIn (ins ++ gv gs) y) gs wr := fun X u y hX hy hu =>
            careg1_any n (n + 1) (ins ++ gv gs) u y X (HS1.out.below hX (Nat.le_refl _)) ((hX.cell (p := ⟨n + 1, 0, none⟩) (by show n + 1 < _; omega)).trans HC.out) (by have := hX.size; omega) hu
          have HCN := Lib.hid (containsg_any _ 36 #[.pointer (some ⟨n + 1, 0, none⟩)] (.slice ga gs.length gc) gs wr (fun _ _ => rfl) HTE (HGW.out.below (B := n) HB.out (by rw [HN.out]; exact Nat.le_refl _)))
          have HE : Hid ((!gs.any (fun y => !gIn (ins ++ gv gs) y)) = looseN ins gs) := by show _ = _; rw [HLO.out, List.all_eq_not_any_not]
          clear HTE HLO
          generalize gs.any (fun y => !gIn (ins ++ gv gs) y) = t at *
          clear HS1 HV1 HVO HS
          go_wp2_with (go_at_call 35; refine HCN.out.mono ?_; rintro e w1 ⟨rfl, hb1⟩)
          go_ret
          exact ⟨ret_bool (by rw [← HE.out]), by rw [HN.out]; exact HB.out.trans (hb1.mono (by omega))⟩
end Go.Proofs.Ytafenijbglcppaa

/- circ.users: who uses the variable of a gate. -/
namespace Go.Proofs.Ytafenijbglcppaa
open Go.RowKit Go.Maps
set_option linter.unusedVariables false
set_option linter.unusedSimpArgs false

theorem ofN_app5 (l : List Nat) (k : Nat) : ofN (l ++ [k]) = ofN l ++ [(k : Int)] := by simp [ofN]
theorem zero_bool5 (w : World) : (zeroValue 4).run Try.prog w = .ok (.bool false) w := by kernel_rfl
theorem zero_ints5 (w : World) : (zeroValue 28).run Try.prog w = .ok (.slice none 0 0) w := by kernel_rfl
/-- 'make([]int, m)' in the walk's form. -/
theorem own_made (w : World) (m : Nat) (hm : m ≤ 17592186044416) : Own (w.alloc (.cells (madeCells #[.int .i64 0] m) 3)) w.heap.size (.slice (some ⟨w.heap.size, 0, none⟩) m m) (List.replicate m 0) := by
  obtain ⟨i0, hi, hz0, hz1, hz2⟩ := info_parts info_int
  obtain ⟨w', hrun, r1, r2⟩ := run_make_full (P := Try.prog) w w.heap.size 28 3 i0 (.int .i64 0) 1 Try.underlying28 hi hz0 hz1 .i64 .i64 m (by rw [hz2]; omega) (by unfold maxLen; omega) (Nat.le_refl _)
  have h2 := run_make_row' (P := Try.prog) 28 3 (.int .i64 0) 8 Try.underlying28 info_int rfl .i64 .i64 m (by omega) (by omega) w
  rw [hrun] at h2
  have e := (Result.ok.inj h2).2
  subst e
  have e1 : (madeCells (Value.int .i64 0).cells (m * 1)).toList = (List.replicate m (0 : Int)).map (Value.int .i64) := by
    rw [Nat.mul_one]
    show (madeCells #[.int .i64 0] m).toList = _
    rw [toList_madeCells_one, List.map_replicate]
  rw [e1] at r1
  unfold Own
  rw [List.length_replicate]
  exact r1
/-- The map of the users, and the slice of the counters. -/
def MadeU (w : World) (n m : Nat) (vm vs : Value) (wx : World) : Prop :=
  ∃ b g c, vm = .map (some b) ∧ vs = .slice (some ⟨g, 0, none⟩) m m ∧ b < c ∧ g < c ∧ b ≠ g ∧ n ≤ b ∧ n ≤ g ∧ c ≤ wx.heap.size ∧ MapG Try.prog 3 3 wx c b 0 (fun _ => False) (fun _ => []) ∧ Own wx n vs (List.replicate m 0) ∧ Kept (fun _ => False) w wx
theorem madeU_one (w : World) (n m : Nat) (hn : n ≤ w.heap.size) (hm : m ≤ 17592186044416) (wx : World) (hq : Quiet ((w.alloc (.map #[] 0)).alloc (.cells (madeCells #[.int .i64 0] m) 3)) wx) :
    MadeU w n m (.map (some w.heap.size)) (.slice (some ⟨w.heap.size + 1, 0, none⟩) m m) wx := by
  have e1 : (w.alloc (.map #[] 0)).heap.size = w.heap.size + 1 := by simp
  have e2 : ((w.alloc (.map #[] 0)).alloc (.cells (madeCells #[.int .i64 0] m) 3)).heap.size = w.heap.size + 2 := by simp
  have k1 : Kept (fun _ => False) (w.alloc (.map #[] 0)) wx := (Kept.alloc _ _ _).trans (Kept.quiet _ hq)
  have hm1 := (MapG.madeAt w Try.prog 3 3 (w.heap.size + 2) (by omega) (fun _ => False)).kept k1 (fun _ _ h => h.elim) (fun _ h => Or.inl h)
  have ho := (own_made (w.alloc (.map #[] 0)) m hm).mono (show n ≤ _ by omega)
  rw [e1] at ho
  exact ⟨_, _, _, rfl, rfl, by omega, by omega, by omega, by omega, by omega, by have := (Kept.quiet (fun _ => False) hq).size; omega, hm1, (Kept.quiet (fun _ => False) hq).row ho (fun _ _ h => h), (Kept.alloc _ _ _).trans k1⟩
theorem madeU_two (w : World) (n m : Nat) (hn : n ≤ w.heap.size) (hm : m ≤ 17592186044416) (wx : World) (hq : Quiet ((w.alloc (.cells (madeCells #[.int .i64 0] m) 3)).alloc (.map #[] 0)) wx) :
    MadeU w n m (.map (some (w.heap.size + 1))) (.slice (some ⟨w.heap.size, 0, none⟩) m m) wx := by
  have e1 : (w.alloc (.cells (madeCells #[.int .i64 0] m) 3)).heap.size = w.heap.size + 1 := by simp
  have e2 : ((w.alloc (.cells (madeCells #[.int .i64 0] m) 3)).alloc (.map #[] 0)).heap.size = w.heap.size + 2 := by simp
  have k1 : Kept (fun _ => False) (w.alloc (.cells (madeCells #[.int .i64 0] m) 3)) wx := (Kept.alloc _ _ _).trans (Kept.quiet _ hq)
  have hm1 := (MapG.madeAt (w.alloc (.cells (madeCells #[.int .i64 0] m) 3)) Try.prog 3 3 (w.heap.size + 2) (by omega) (fun _ => False)).kept (Kept.quiet (fun _ => False) hq) (fun _ _ h => h.elim) (fun _ h => Or.inl h)
  rw [e1] at hm1
  have ho := (own_made w m hm).mono hn
  exact ⟨_, _, _, rfl, rfl, by omega, by omega, by omega, by omega, by omega, by have := (Kept.quiet (fun _ => False) hq).size; omega, hm1, k1.row ho (fun _ _ h => h), (Kept.alloc _ _ _).trans k1⟩

/-- The users and the counters as far as they have been told. -/
structure UsS (w : World) (n b g c : Nat) (gs : List Gt) (k t : Nat) (left : List Int) : Prop where
  ng : ∃ q, q ≤ sizeG (gs.take k) + t ∧ MapG Try.prog 3 3 w c b q (fun _ => False) (usrs gs k t)
  own : Own w n (.slice (some ⟨g, 0, none⟩) gs.length gs.length) left
  len : left.length = gs.length
  lf : ∀ i, i < gs.length → left.getD i 0 = (usesAt gs k t i : Int)
  lay : b < c ∧ g < c ∧ b ≠ g ∧ n ≤ b ∧ n ≤ g ∧ c ≤ w.heap.size
theorem UsS.kept {S : Nat → Prop} {w w' : World} {n b g c : Nat} {gs : List Gt} {k t : Nat} {left : List Int} (h : UsS w n b g c gs k t left) (hk : Kept S w w') (hS : ∀ i, S i → i < n) : UsS w' n b g c gs k t left := by
  obtain ⟨⟨q, hq, hm⟩, ho, hl, hf, l1, l2, l3, l4, l5, l6⟩ := h
  have hrow : ∀ i, (Value.slice (some ⟨g, 0, none⟩) gs.length gs.length).ownBlock = some i → ¬ S i := fun i hi h => by
    have := hS i h
    have e : i = g := by simpa [Value.ownBlock] using hi.symm
    omega
  exact ⟨⟨q, hq, hm.kept hk (fun i _ h => by have := hS i h; exact ⟨by omega, Or.inr (by omega)⟩) (fun _ h => Or.inl h)⟩, hk.row ho hrow, hl, hf, l1, l2, l3, l4, l5, by have := hk.size; omega⟩
theorem UsS.miss {w : World} {n b g c : Nat} {gs : List Gt} {k t : Nat} {left : List Int} (h : UsS w n b g c gs k t left) (ht : t < (gs.getD k dG).2.2.length) (hv : varC ((gs.getD k dG).2.2.getD t 0) ∉ gv gs) : UsS w n b g c gs k (t + 1) left := by
  obtain ⟨⟨q, hq, hm⟩, ho, hl, hf, l⟩ := h
  exact ⟨⟨q, by omega, by rw [usrs_miss ht hv]; exact hm⟩, ho, hl, fun i hi => by rw [hf i hi, usesAt_miss ht hv], l⟩
theorem UsS.next {w : World} {n b g c : Nat} {gs : List Gt} {k : Nat} {left : List Int} (hk : k < gs.length) (h : UsS w n b g c gs k (gs.getD k dG).2.2.length left) : UsS w n b g c gs (k + 1) 0 left := by
  obtain ⟨⟨q, hq, hm⟩, ho, hl, hf, l⟩ := h
  exact ⟨⟨q, by rw [sizeG_take hk]; omega, by rw [usrs_next]; exact hm⟩, ho, hl, fun i hi => by rw [hf i hi, usesAt_next], l⟩
theorem usrs_le {gs : List Gt} {k t : Nat} {v : Int} : ∀ i ∈ usrs gs k t v, i ≤ k := by
  intro i h
  unfold usrs at h
  rcases List.mem_append.1 h with h | h
  · obtain ⟨j, hj, h⟩ := List.mem_flatMap.1 h
    rw [List.mem_range] at hj
    unfold usrG at h
    split at h
    · have := (List.mem_replicate.1 h).2; omega
    · simp at h
  · unfold usrG at h
    split at h
    · have := (List.mem_replicate.1 h).2; omega
    · simp at h
/-- What a store behind the append leaves. -/
theorem UsS.hit {w : World} {n b g c : Nat} {gs : List Gt} {k t : Nat} {left : List Int} (h : UsS w n b g c gs k t left) (hkl : k < gs.length) (hgl : gs.length ≤ 1000000) (hsz : sizeG (gs.take k) + t ≤ 1000000) (ht : t < (gs.getD k dG).2.2.length) (hv : varC ((gs.getD k dG).2.2.getD t 0) ∈ gv gs) (y : Int) (hy : y = varC ((gs.getD k dG).2.2.getD t 0)) (y1 : -9223372036854775808 ≤ y) (y2 : y ≤ 9223372036854775807) (o : Obj) :
    ∃ v, (Instr.lookup 82 (.map (some b)) (.int .i64 y) false).run Try.prog w = .ok v w ∧ Own (w.alloc o) c v (ofN (usrs gs k t y)) ∧ (ofN (usrs gs k t y)).length ≤ 1000000 ∧
      ∀ (v' : Value) (w1 : World), Own w1 c v' (ofN (usrs gs k t y) ++ [(k : Int)]) → (w.alloc o).grownBy w1 v.ownBlock → (v'.ownBlock = v.ownBlock ∨ v'.ownBlock = some (w.alloc o).heap.size) →
        ∃ w2, (Instr.mapUpdate 82 (.map (some b)) (.int .i64 y) v').run Try.prog w1 = .ok () w2 ∧ w1.grownBy w2 (some b) ∧ Below n w w2 ∧ w2.cell? ⟨g, k, none⟩ = some (.int .i64 (left.getD k 0)) ∧ w2.frozen? ⟨g, k, none⟩ = false ∧
          UsS (w2.setCell ⟨g, k, none⟩ (.int .i64 (left.getD k 0 + 1))) n b g c gs k (t + 1) (left.set k (left.getD k 0 + 1)) ∧ Below n w (w2.setCell ⟨g, k, none⟩ (.int .i64 (left.getD k 0 + 1))) := by
  obtain ⟨⟨q, hq, hm⟩, ho, hl, hf, l1, l2, l3, l4, l5, l6⟩ := h
  subst hy
  obtain ⟨v, r1, o1, ln1, h1, b1⟩ := hm.at (t := 82) Try.underlying3 Try.underlying82 (zero_ints5 _) (by unfold maxLen; omega) _ (i64w y1 y2)
  have wf : ∀ z ∈ ofN (usrs gs k t (varC ((gs.getD k dG).2.2.getD t 0)) ++ [k]), (Lit.int .i64 z).wf = true := by
    intro z hz
    simp only [ofN, List.mem_map] at hz
    obtain ⟨i, hi, rfl⟩ := hz
    have : i ≤ k := by
      rcases List.mem_append.1 hi with h | h
      · exact usrs_le i h
      · rw [List.mem_singleton] at h; omega
    exact i64w (by omega) (by omega)
  have hown1 : Own w c v (ofN (usrs gs k t (varC ((gs.getD k dG).2.2.getD t 0)))) := o1.1
  refine ⟨v, r1, hown1.alloc o, by rw [ofN_len]; omega, fun v' w1 ho' hg' hloc => ?_⟩
  have hsa : (w.alloc o).heap.size = w.heap.size + 1 := by simp
  have hg0 : w.grownBy w1 v.ownBlock := (World.grownBy_alloc w o _).trans hg'
  obtain ⟨w2, hr, hm2, hg2⟩ := b1 w1 v' k hg0 ⟨by rw [← ofN_app5] at ho'; exact ho', wf⟩ (by
    rcases hloc with h | h
    · exact Or.inl h
    · exact Or.inr ⟨_, h, by rw [hsa]; omega⟩) (fun _ _ h => h)
  have hK : Kept (fun i => v.ownBlock = some i ∨ i = b) w w2 := ((Kept.of_grown hg0).mono (fun i _ e => Or.inl e)).next (Kept.of_grown hg2) (fun i _ e => Or.inr (by simpa using e.symm))
  have hOw : Own w2 n (.slice (some ⟨g, 0, none⟩) gs.length gs.length) left := hK.row ho (fun i hi e => by
    have e0 : i = g := by simpa [Value.ownBlock] using hi.symm
    rcases e with e | e
    · have := (hown1.lt i e).1; omega
    · omega)
  have hkl2 : k < left.length := by omega
  have hc := (hl ▸ hOw : Own w2 n (.slice (some ⟨g, 0, none⟩) left.length left.length) left).cell k hkl2
  have hfz := (hl ▸ hOw : Own w2 n (.slice (some ⟨g, 0, none⟩) left.length left.length) left).frozen k
  have hbl : Below n w w2 := hK.below (by omega) (fun i hi e => by
    rcases e with e | e
    · have := (hown1.lt i e).1; omega
    · omega)
  have kS := Kept.setCell w2 ⟨g, k, none⟩ (.int .i64 (left.getD k 0 + 1))
  refine ⟨w2, hr, hg2, hbl, hc, hfz, ⟨⟨q + 1, by omega, ?_⟩, ?_, by rw [List.length_set, hl], fun i hi => ?_, l1, l2, l3, l4, l5, by have := hK.size; have := kS.size; omega⟩, hbl.setCell (p := ⟨g, k, none⟩) (by show n ≤ g; omega) _⟩
  · rw [usrs_hit ht hv]
    exact hm2.kept kS (fun i _ h => by simp at h; exact ⟨by omega, Or.inr (by omega)⟩) (fun _ h => Or.inl h)
  · have := (hl ▸ hOw : Own w2 n (.slice (some ⟨g, 0, none⟩) left.length left.length) left).store k (left.getD k 0 + 1)
    rw [hl] at this
    exact this
  · rw [getD_set _ _ _ _ hkl2, usesAt_hit ht hv]
    by_cases e : i = k
    · subst e; rw [if_pos rfl, if_pos rfl, hf i hi]; omega
    · rw [if_neg e, if_neg e, hf i hi]
theorem uses_le (gs : List Gt) (k t : Nat) : usesAt gs k t k ≤ t := by
  unfold usesAt
  rw [if_neg (by omega), if_pos rfl]
  unfold cnt0
  exact Nat.le_trans List.countP_le_length (by rw [List.length_take]; omega)
end Go.Proofs.Ytafenijbglcppaa

/- circ.users: the walk. -/
namespace Go.Proofs.Ytafenijbglcppaa
open Go.RowKit Go.Maps
set_option linter.unusedVariables false
set_option linter.unusedSimpArgs false

/-- What users hands back. -/
def UsersPost (w : World) (gs : List Gt) (e : Ending) (w' : World) : Prop :=
  ∃ b g c left, e = .returned (.tuple #[.map (some b), .slice (some ⟨g, 0, none⟩) gs.length gs.length]) ∧ UsS w' (w.heap.size + 1) b g c gs gs.length 0 left ∧ Below w.heap.size w w'

theorem Kept.ofBelow {B : Nat} {w w' : World} (h : Below B w w') : Kept (fun i => B ≤ i) w w' := ⟨h.os, h.tape, h.output, h.size, fun k hk hS => h.block k (by omega)⟩
set_option maxHeartbeats 3200000 in
set_option maxRecDepth 100000 in
theorem users_any (vg : Value) (gs : List Gt) (w : World) (HG : IsGates w vg gs) (hg : gs.length < 1000000) (hnd : (gv gs).Nodup) (hsz : sizeG gs ≤ 200000) :
    Calls Try.prog 38 #[vg] w (UsersPost w gs) := by
  have HGW := Lib.hid HG
  have HGB := Lib.hid HG.bd
  have HSZ := Lib.hid hsz
  have HND := Lib.hid hnd
  obtain ⟨ga, gc, rfl, hg44⟩ := HG.shape
  have hmm := @run_makeMap Try.prog
  have hmk := run_make_row' (P := Try.prog) 28 3 (.int .i64 0) 8 Try.underlying28 info_int rfl .i64 .i64 gs.length (by omega) (by omega)
  have HB0 := Lib.hid ((Below.refl w.heap.size w).alloc (Nat.le_refl _) (.map #[] 0))
  have HS0 := Lib.hid (SetI.made w)
  clear HG hsz hnd
  go_enter Try.func38, Try.ntmps38
  go_wp2
  go_loopw [15] (fun i wr => ∃ k : Nat, k ≤ gs.length ∧ i = .int .i64 k ∧ SetI wr w.heap.size (gv (gs.take k)) ∧ Below w.heap.size w wr) (fun i _ => gs.length - (intOf i).toNat)
  case atStart => exact ⟨0, Nat.zero_le _, rfl, by simpa [gv] using HS0.out, HB0.out⟩
  case round =>
    clear HS0 HB0
    obtain ⟨k, hk, rfl, hset, hbel⟩ := hrel
    have HS := Lib.hid hset
    have HB := Lib.hid hbel
    have hszr := hbel.size
    clear hset hbel
    by_cases hlt : k < gs.length
    · obtain ⟨pb, off, u, rfl, hb, hcx0, hck0, hcu0, HU0, hrg⟩ := HGW.out.at hlt
      have hcx := (HB.out.cell (p := ⟨pb, off + k * 3, none⟩) hb).trans hcx0
      have hck := (HB.out.cell (p := ⟨pb, off + k * 3 + 1, none⟩) hb).trans hck0
      have hcu := (HB.out.cell (p := ⟨pb, off + k * 3 + 2, none⟩) hb).trans hcu0
      have HTK := Lib.hid (gv_take hlt)
      have HNN : Hid ((gs.getD k dG).1 ∉ gv (gs.take k)) := by
        have h0 : gv gs = gv (gs.take (k + 1)) ++ gv (gs.drop (k + 1)) := by unfold gv; rw [← List.map_append, List.take_append_drop]
        have h1 := HND.out
        rw [h0, gv_take hlt] at h1
        have h2 := (List.nodup_append.1 (List.nodup_append.1 h1).1).2.2
        exact fun h => h2 _ h _ (by simp) rfl
      obtain ⟨ua, uc, rfl⟩ := HU0.shape
      have HKL := Lib.hid hlt
      have hk0 : (0 : Int) ≤ (k : Int) := by omega
      have hk1 : (k : Int) < (gs.length : Int) := by omega
      have hk2 : (k : Int) < 4000001 := by omega
      have hlk : (gv (gs.take k)).length < 4000000 := by unfold gv; rw [List.length_map, List.length_take]; omega
      clear hcx0 hck0 hcu0 HU0 hlt
      generalize gs.getD k dG = y at *
      obtain ⟨y1, y2, y3⟩ := y
      simp only at hcx hck hcu hrg HTK HNN
      have hx := hrg.1
      clear hrg
      generalize y3.length = yl at *
      obtain ⟨wa, hwa⟩ : ∃ wa, wr.alloc (.cells #[.int .i64 y1, .int .u8 y2, .slice ua yl uc] 34) = wa := ⟨_, rfl⟩
      have ha : Kept (fun _ => False) wr wa := by rw [← hwa]; exact Kept.alloc _ _ _
      have g0 : wa.cell? ⟨wr.heap.size, 0, none⟩ = some (.int .i64 y1) := by rw [← hwa]; exact cell_fresh rfl
      have HSA := Lib.hid (HS.out.kept ha (fun h => h))
      have HBA := Lib.hid (HB.out.trans (ha.below hszr (fun _ _ h => h)))
      have HWA := Lib.hid hwa
      clear ha hwa
      go_upto_region 5 with fail
      rw [HWA.out]
      clear hcx hck hcu HWA HS HB
      generalize wr.heap.size = gb at *
      generalize gv (gs.take k) = S at *
      go_wp2_with (at_mapUpdate; refine wpList_putS rfl _ _ _ rfl rfl HSA.out (by unfold maxLen; omega) y1 rfl rfl (i64w hx.1 hx.2) HNN.out ?_; intro w3 hs3 k3; have HS3 := Lib.hid hs3; have HK3 := Lib.hid k3; clear hs3 k3)
      go_roundw
      case rel => exact ⟨k + 1, HKL.out, by go_num, by rw [HTK.out]; exact HS3.out, HBA.out.trans (HK3.out.below HBA.out.size (fun i hi e => by omega))⟩
      case measure => have := HKL.out; simp [intOf]; omega
    · have HK : Hid (k = gs.length) := by show _ = _; omega
      have HS1 : Hid (SetI wr w.heap.size (gv gs)) := by have h := HS.out; rw [HK.out, List.take_length] at h; exact h
      clear HS
      go_upto_region 7 with fail
      clear hk hlt HK
      have HSZR : Hid (w.heap.size + 1 ≤ wr.heap.size) := HS1.out.lt
      clear hszr
      generalize wr = W at *
      go_cut [2, 3] from 23 to 26 (fun m s wx => MadeU W (w.heap.size + 1) gs.length m s wx)
      case first =>
        have HM1 := Lib.hid (madeU_one W (w.heap.size + 1) gs.length HSZR.out hg44)
        have HM2 := Lib.hid (madeU_two W (w.heap.size + 1) gs.length HSZR.out hg44)
        go_region
        all_goals (go_wp2_with fail; go_meet; first | exact HM1.out _ ⟨_, rfl⟩ | exact HM2.out _ ⟨_, rfl⟩)
      case rest =>
        obtain ⟨b, g, c, rfl, rfl, l1, l2, l3, l4, l5, l6, hmg, hown, hkp⟩ := hcut
        have HU1 : Hid (UsS wc (w.heap.size + 1) b g c gs 0 0 (List.replicate gs.length 0)) := ⟨⟨0, by omega, by rw [show usrs gs 0 0 = fun _ => [] from funext (usrs_zero gs)]; exact hmg⟩, hown, by simp, fun i hi => by
          have h1 : usesAt gs 0 0 i = 0 := by unfold usesAt; rw [if_neg (by omega)]; split <;> simp [cnt0]
          rw [h1]; simp [List.getD, List.getElem?_replicate, hi], l1, l2, l3, l4, l5, l6⟩
        have HB1 : Hid (Below w.heap.size w wc) := HB.out.trans (hkp.below (by have := HSZR.out; omega) (fun _ _ h => h))
        have HS2 : Hid (SetI wc w.heap.size (gv gs)) := HS1.out.kept hkp (fun h => h)
        clear hmg hown hkp HB HS1 hmk hmm l1 l2 l3 l4 l5 l6
        go_wp2
        go_loopw [29] (fun i wr => ∃ (k : Nat) (left : List Int), k ≤ gs.length ∧ i = .int .i64 k ∧ UsS wr (w.heap.size + 1) b g c gs k 0 left ∧ SetI wr w.heap.size (gv gs) ∧ Below w.heap.size w wr) (fun i _ => gs.length - (intOf i).toNat)
        case atStart => exact ⟨0, _, Nat.zero_le _, rfl, HU1.out, HS2.out, HB1.out⟩
        case round =>
          clear HU1 HS2 HB1
          obtain ⟨k, left, hk, rfl, hus, hset, hbel⟩ := hrel
          have HU := Lib.hid hus
          have HS := Lib.hid hset
          have HB := Lib.hid hbel
          have hszr := hbel.size
          clear hus hset hbel
          by_cases hlt : k < gs.length
          · obtain ⟨pb, off, u, rfl, hb, hcx0, hck0, hcu0, HU0, hrg⟩ := HGW.out.at hlt
            have hcx := (HB.out.cell (p := ⟨pb, off + k * 3, none⟩) hb).trans hcx0
            have hck := (HB.out.cell (p := ⟨pb, off + k * 3 + 1, none⟩) hb).trans hck0
            have hcu := (HB.out.cell (p := ⟨pb, off + k * 3 + 2, none⟩) hb).trans hcu0
            have HKL := Lib.hid hlt
            have HSL : Hid (sizeG (gs.take k) + (gs.getD k dG).2.2.length ≤ 200000) := by
              show _ ≤ _
              rw [← sizeG_take hlt]
              exact Nat.le_trans (sizeG_le gs _) HSZ.out
            have HGBJ := Lib.hid (HGB.out _ (show gs.getD k dG ∈ gs by simp [List.getD, hlt]))
            have HNX : Hid (∀ (X : World) (l : List Int), UsS X (w.heap.size + 1) b g c gs k (gs.getD k dG).2.2.length l → UsS X (w.heap.size + 1) b g c gs (k + 1) 0 l) := fun X l h => UsS.next hlt h
            have HMI : Hid (∀ (X : World) (l : List Int) (t : Nat), t < (gs.getD k dG).2.2.length → varC ((gs.getD k dG).2.2.getD t 0) ∉ gv gs → UsS X (w.heap.size + 1) b g c gs k t l → UsS X (w.heap.size + 1) b g c gs k (t + 1) l) := fun X l t h1 h2 h3 => UsS.miss h3 h1 h2
            have HHI : Hid (∀ (X : World) (l : List Int) (t : Nat) (ht : t < (gs.getD k dG).2.2.length) (hv : varC ((gs.getD k dG).2.2.getD t 0) ∈ gv gs) (h : UsS X (w.heap.size + 1) b g c gs k t l), _) := fun X l t ht hv h => UsS.hit h hlt (by omega) (by have := HSL.out; omega) ht hv
            obtain ⟨ua, uc, rfl⟩ := HU0.shape
            have HUW := Lib.hid HU0
            have hk0 : (0 : Int) ≤ (k : Int) := by omega
            have hk1 : (k : Int) < (gs.length : Int) := by omega
            have hk2 : (k : Int) < 4000001 := by omega
            have hlen : left.length = gs.length := HU.out.len
            have HLU : Hid (∀ (X : World) (l : List Int) (t : Nat), UsS X (w.heap.size + 1) b g c gs k t l → (l.getD k 0 = (usesAt gs k t k : Int) ∧ usesAt gs k t k ≤ t)) := fun X l t h => ⟨h.lf k HKL.out, uses_le gs k t⟩
            clear hcx0 hck0 hcu0 HU0 hlt hlen
            generalize gs.getD k dG = y at *
            obtain ⟨y1, y2, y3⟩ := y
            simp only at hcx hck hcu hrg HNX HMI HHI HUW HSL HGBJ
            clear hrg
            have hyl : y3.length ≤ 200000 := by have := HSL.out; omega
            obtain ⟨wa, hwa⟩ : ∃ wa, wr.alloc (.cells #[.int .i64 y1, .int .u8 y2, .slice ua y3.length uc] 34) = wa := ⟨_, rfl⟩
            have ha : Kept (fun _ => False) wr wa := by rw [← hwa]; exact Kept.alloc _ _ _
            have g2 : wa.cell? ⟨wr.heap.size, 2, none⟩ = some (.slice ua y3.length uc) := by rw [← hwa]; exact cell_fresh rfl
            have HSA := Lib.hid (HS.out.kept ha (fun h => h))
            have HUA := Lib.hid (HU.out.kept ha (fun _ h => h.elim))
            have HBA := Lib.hid (HB.out.trans (ha.below hszr (fun _ _ h => h)))
            have HWA := Lib.hid hwa
            clear ha hwa
            go_upto_region 11 with fail
            rw [HWA.out]
            clear hcx hck hcu HWA HS HB HU
            generalize wr.heap.size = gb at *
            go_wp2
            clear g2
            go_loopw [37] (fun i wx => ∃ (t : Nat) (left : List Int), t ≤ y3.length ∧ i = .int .i64 t ∧ UsS wx (w.heap.size + 1) b g c gs k t left ∧ SetI wx w.heap.size (gv gs) ∧ Below w.heap.size w wx) (fun i _ => y3.length - (intOf i).toNat)
            case atStart => exact ⟨0, left, Nat.zero_le _, rfl, HUA.out, HSA.out, HBA.out⟩
            case round =>
              clear HSA HUA HBA
              obtain ⟨t, left, ht, rfl, hus, hset, hbel⟩ := hrel
              have HU := Lib.hid hus
              have HS := Lib.hid hset
              have HB := Lib.hid hbel
              have hszx := hbel.size
              clear hus hset hbel
              by_cases hlt : t < y3.length
              · obtain ⟨b2, off2, rfl, hb2, hc0⟩ := HUW.out.cellY hlt
                have hc := (HB.out.cell (p := ⟨b2, off2 + t, none⟩) hb2).trans hc0
                have hxr := HGBJ.out.2.2.2 _ (ints_getD_mem hlt)
                have HTL := Lib.hid hlt
                have hv64 := varC_64 hxr.1 hxr.2
                have HVC := Lib.hid (fun X => cvar_any (y3.getD t 0) X hxr.1 hxr.2)
                have ht0 : (0 : Int) ≤ (t : Int) := by omega
                have ht1 : (t : Int) < (y3.length : Int) := by omega
                have ht2 : (t : Int) < 4000001 := by omega
                have HM1 := Lib.hid (fun (h : varC (y3.getD t 0) ∉ gv gs) => HMI.out wr left t hlt h HU.out)
                have HH1 := Lib.hid (fun (h : varC (y3.getD t 0) ∈ gv gs) => HHI.out wr left t hlt h HU.out _ rfl hv64.1 hv64.2 (.cells #[.int .i64 (k : Int)] 3))
                have HLV := Lib.hid (HLU.out wr left t HU.out)
                have HV64 := Lib.hid hv64
                have HG1 := Lib.hid hg
                have HYL := Lib.hid hyl
                have hne2 : ¬ y3 = [] := by intro e; rw [e] at hlt; simp at hlt
                have HKX := Lib.hid (And.intro hk0 (And.intro hk1 hk2))
                clear hc0 hlt hxr hv64 hg hyl hg44 ht hk hszx hk0 hk1 hk2
                generalize varC (y3.getD t 0) = v at *
                generalize y3.getD t 0 = x at *
                cases hd : decide (v ∈ gv gs) with
                | false =>
                  have HU2 := Lib.hid (HM1.out (by simpa using hd))
                  have hlk : (Instr.lookup 57 (.map (some w.heap.size)) (.int .i64 v) false).run Try.prog wr = .ok (.bool false) wr := by rw [HS.out.look (zero_bool5 _) v (i64w HV64.out.1 HV64.out.2), hd]
                  clear hd
                  go_wp2_with (first
                    | (go_at_call 27; refine (HVC.out _).mono ?_; rintro e w1 ⟨rfl, rfl⟩)
)
                  go_roundw
                  case rel => exact ⟨t + 1, left, HTL.out, by go_num, HU2.out, HS.out, HB.out⟩
                  case measure => have := HTL.out; simp [intOf]; omega
                | true =>
                  obtain ⟨vv, hrunV, hoV, hlV, hback⟩ := HH1.out (by simpa using hd)
                  have hlk : (Instr.lookup 57 (.map (some w.heap.size)) (.int .i64 v) false).run Try.prog wr = .ok (.bool true) wr := by rw [HS.out.look (zero_bool5 _) v (i64w HV64.out.1 HV64.out.2), hd]
                  clear hd
                  have HO := Lib.hid hoV
                  have HBK := Lib.hid hback
                  have HLL := Lib.hid hlV
                  have hlw := HLV.out
                  have hl1 : -1 ≤ left.getD k 0 ∧ left.getD k 0 ≤ 200000 := by have := HYL.out; have := HTL.out; omega
                  obtain ⟨hl2, hl3⟩ := hl1
                  have hcx := HU.out.lay.2.2.2.2.2
                  clear hoV hback hlV HH1 HM1 HLV hlw
                  generalize left.getD k 0 = z at *
                  obtain ⟨zs, hzs⟩ : ∃ zs, zs = ofN (usrs gs k t v) := ⟨_, rfl⟩
                  rw [← hzs] at HO HLL HBK
                  clear hzs
                  go_wp2_with (first
                    | (go_at_call 27; refine (HVC.out _).mono ?_; rintro e w1 ⟨rfl, rfl⟩)
                    | (at_builtin; refine wpList_app1T rfl (.tmp 50) (.tmp 52) 28 Try.underlying28 rfl c vv zs (k : Int) wr.heap.size rfl rfl HO.out (by simp) (by have := HLL.out; omega) (by simp; omega) ?_; intro v' w5 ho5 hg5 hl5; obtain ⟨w6, hru6, hg6, hb6, hc6, hf6, hus6, hbs6⟩ := HBK.out v' w5 ho5 hg5 hl5; have HU6 := Lib.hid hus6; have HB6 := Lib.hid (HB.out.trans (hbs6.mono (Nat.le_succ _))); have HS6 := Lib.hid (HS.out.kept (Kept.ofBelow hbs6) (by omega)); obtain ⟨hk0, hk1, hk2⟩ := HKX.out; clear hus6 hb6 hbs6 ho5 hg5 hl5)
                    )
                  go_roundw
                  case rel => exact ⟨t + 1, left.set k (z + 1), HTL.out, by go_num, HU6.out, HS6.out, HB6.out⟩
                  case measure => have := HTL.out; simp [intOf]; omega
              · have HT : Hid (t = y3.length) := by show _ = _; omega
                have HU2 : Hid (UsS wr (w.heap.size + 1) b g c gs (k + 1) 0 left) := by have h := HU.out; rw [HT.out] at h; exact HNX.out _ _ h
                go_wp2
                go_roundw
                case rel => exact ⟨k + 1, left, HKL.out, by go_num, HU2.out, HS.out, HB.out⟩
                case measure => have := HKL.out; simp [intOf]; omega
          · have HK : Hid (k = gs.length) := by show _ = _; omega
            have HU2 : Hid (UsS wr (w.heap.size + 1) b g c gs gs.length 0 left) := by have h := HU.out; rw [HK.out] at h; exact h
            go_wp2
            go_ret2
            exact ⟨b, g, c, left, rfl, HU2.out, HB.out⟩
end Go.Proofs.Ytafenijbglcppaa

/- circ.taken: the state in memory. -/
namespace Go.Proofs.Ytafenijbglcppaa
open Go.RowKit Go.Maps
set_option linter.unusedVariables false
set_option linter.unusedSimpArgs false

/-- Below c: the map b and the counters g; from c on the map's rows; pb is the heap's cell, and behind it lie the heap's row and that of the order. -/
structure TkS (w : World) (n b g c pb : Nat) (gs : List Gt) (vw vo : Value) (left wait : List Int) (T : List Nat) : Prop where
  mg : ∃ q, q ≤ 1000000 ∧ MapG Try.prog 3 3 w c b q (fun i => pb ≤ i) (usrs gs gs.length 0)
  lo : Own w n (.slice (some ⟨g, 0, none⟩) gs.length gs.length) left
  ll : left.length = gs.length
  fl : Fld w pb 0 #[vw] 85 vw
  wo : Own w (pb + 1) vw wait
  oo : Own w (pb + 1) vo (ofN T)
  dis : ∀ x, vo.ownBlock = some x → vw.ownBlock ≠ some x
  hh : hp wait wait.length
  lay : b < c ∧ g < c ∧ b ≠ g ∧ n ≤ b ∧ n ≤ g ∧ c ≤ pb
section
variable {w w' : World} {n b g c pb : Nat} {gs : List Gt} {vw vo : Value} {left wait : List Int} {T : List Nat}
theorem TkS.pblt (s : TkS w n b g c pb gs vw vo left wait T) : pb < w.heap.size := s.fl.lt
theorem TkS.wfar (s : TkS w n b g c pb gs vw vo left wait T) : ∀ i, vw.ownBlock = some i → pb + 1 ≤ i ∧ i < w.heap.size := fun i hi => s.wo.lt i hi
theorem TkS.wne (s : TkS w n b g c pb gs vw vo left wait T) : vw.ownBlock ≠ some pb := fun h => by have := (s.wfar _ h).1; omega
theorem gb_own {g m : Nat} {i : Nat} (h : (Value.slice (some ⟨g, 0, none⟩) m m).ownBlock = some i) : i = g := by simpa [Value.ownBlock] using h.symm
theorem TkS.kept {S : Nat → Prop} (s : TkS w n b g c pb gs vw vo left wait T) (k : Kept S w w') (hS : ∀ i, i < w.heap.size → S i → i < n) : TkS w' n b g c pb gs vw vo left wait T := by
  obtain ⟨⟨q, hq, hm⟩, ho, hl, hf, hwo, hoo, hd, hh, l1, l2, l3, l4, l5, l6⟩ := s
  have hpb := hf.lt
  refine ⟨⟨q, hq, hm.kept k (fun i hi h => by have := hS i hi h; exact ⟨by omega, Or.inr (by omega)⟩) (fun _ h => Or.inl h)⟩, k.row ho (fun i hi h => ?_), hl, hf.kept k (fun h => ?_), k.row hwo (fun i hi h => ?_), k.row hoo (fun i hi h => ?_), hd, hh, l1, l2, l3, l4, l5, l6⟩
  · have e := gb_own hi
    have := hS i (by omega) h; omega
  · have := hS pb hpb h; omega
  · have h1 := hwo.lt i hi; have := hS i h1.2 h; omega
  · have h1 := hoo.lt i hi; have := hS i h1.2 h; omega
theorem TkS.idle (s : TkS w n b g c pb gs vw vo left wait T) (k : Kept (fun _ => False) w w') : TkS w' n b g c pb gs vw vo left wait T := s.kept k (fun _ _ h => h.elim)
/-- A counter is written. -/
theorem TkS.setLeft (s : TkS w n b g c pb gs vw vo left wait T) (i : Nat) (y : Int) : TkS (w.setCell ⟨g, i, none⟩ (.int .i64 y)) n b g c pb gs vw vo (left.set i y) wait T := by
  obtain ⟨⟨q, hq, hm⟩, ho, hl, hf, hwo, hoo, hd, hh, l1, l2, l3, l4, l5, l6⟩ := s
  have k := Kept.setCell w ⟨g, i, none⟩ (.int .i64 y)
  refine ⟨⟨q, hq, hm.kept k (fun j _ h => by simp at h; exact ⟨by omega, Or.inr (by omega)⟩) (fun _ h => Or.inl h)⟩, ?_, by rw [List.length_set, hl], hf.kept k (fun h => by simp at h; omega), k.row hwo (fun j hj h => ?_), k.row hoo (fun j hj h => ?_), hd, hh, l1, l2, l3, l4, l5, l6⟩
  · have := (hl ▸ ho : Own w n (.slice (some ⟨g, 0, none⟩) left.length left.length) left).store i y
    rw [hl] at this
    exact this
  · simp at h; have := hwo.lt j hj; omega
  · simp at h; have := hoo.lt j hj; omega
/-- The heap has turned. -/
theorem TkS.now {vw' : Value} {m : List Int} (s : TkS w n b g c pb gs vw vo left wait T) (h : FldNow w (pb + 1) pb 0 #[vw] 85 vw vw' m w') (hm' : hp m m.length) : TkS w' n b g c pb gs vw' vo left m T := by
  have hfar := s.wfar
  obtain ⟨⟨q, hq, hm⟩, ho, hl, hf, hwo, hoo, hd, hh, l1, l2, l3, l4, l5, l6⟩ := s
  obtain ⟨h1, h2, h3, k⟩ := h
  refine ⟨⟨q, hq, hm.kept k (fun j _ h => ?_) (fun _ h => Or.inl h)⟩, k.row ho (fun i hi h => ?_), hl, h2, h1, k.row hoo (fun i hi h => ?_), fun x hx e => ?_, hm', l1, l2, l3, l4, l5, l6⟩
  · rcases h with h | h
    · have := (hfar _ h).1; exact ⟨by omega, Or.inl (by omega)⟩
    · exact ⟨by omega, Or.inl (by omega)⟩
  · have e := gb_own hi
    rcases h with h | h
    · have := (hfar _ h).1; omega
    · omega
  · have h5 := hoo.lt i hi
    rcases h with h | h
    · exact hd i hi h
    · omega
  · have h5 := hoo.lt x hx
    rcases h3 with h3 | ⟨g', h3, hge⟩
    · exact hd x hx (by rw [← h3]; exact e)
    · rw [h3] at e
      have : g' = x := by simpa using e
      omega
theorem TkS.belowNow {vw' : Value} {m : List Int} (s : TkS w n b g c pb gs vw vo left wait T) (h : FldNow w (pb + 1) pb 0 #[vw] 85 vw vw' m w') : Below c w w' := by
  have hfar := s.wfar
  have hpb := s.pblt
  obtain ⟨l1, l2, l3, l4, l5, l6⟩ := s.lay
  exact h.2.2.2.below (by omega) (fun k hk e => by rcases e with e | e; (have := (hfar _ e).1; omega); omega)
/-- What lies in the map's rows stays. -/
theorem TkS.rowNow {vw' : Value} {m : List Int} (s : TkS w n b g c pb gs vw vo left wait T) (h : FldNow w (pb + 1) pb 0 #[vw] 85 vw vw' m w') {v : Value} {zs : List Int} (ho : Own w c v zs) (hv : ∀ x, v.ownBlock = some x → x < pb) : Own w' c v zs := by
  have hfar := s.wfar
  refine h.2.2.2.row ho (fun i hi e => ?_)
  have := hv i hi
  rcases e with e | e
  · have := (hfar _ e).1; omega
  · omega
theorem TkS.rowSet (s : TkS w n b g c pb gs vw vo left wait T) {v : Value} {zs : List Int} (ho : Own w c v zs) (i : Nat) (y : Int) : Own (w.setCell ⟨g, i, none⟩ (.int .i64 y)) c v zs := by
  refine (Kept.setCell w ⟨g, i, none⟩ (.int .i64 y)).row ho (fun j hj e => ?_)
  have := (ho.lt j hj).1
  have := s.lay
  simp at e; omega
/-- One more is taken. -/
theorem TkS.app {vo' : Value} {o : Obj} {i : Nat} (s : TkS w n b g c pb gs vw vo left wait T) (ho' : Own w' (pb + 1) vo' (ofN T ++ [(i : Int)])) (hg : (w.alloc o).grownBy w' vo.ownBlock) (hloc : vo'.ownBlock = vo.ownBlock ∨ vo'.ownBlock = some (w.alloc o).heap.size) : TkS w' n b g c pb gs vw vo' left wait (T ++ [i]) ∧ Below c w w' := by
  have hfar := s.wfar
  have hpb := s.pblt
  obtain ⟨⟨q, hq, hm⟩, ho, hl, hf, hwo, hoo, hd, hh, l1, l2, l3, l4, l5, l6⟩ := s
  have hg0 : w.grownBy w' vo.ownBlock := (World.grownBy_alloc w o _).trans hg
  have k := Kept.of_grown hg0
  have hsa : (w.alloc o).heap.size = w.heap.size + 1 := by simp
  refine ⟨⟨⟨q, hq, hm.kept k (fun j _ h => ?_) (fun _ h => Or.inl h)⟩, k.row ho (fun j hj h => ?_), hl, hf.kept k (fun h => ?_), k.row hwo (fun j hj h => ?_), by rw [ofN_app5]; exact ho', fun x hx e => ?_, hh, l1, l2, l3, l4, l5, l6⟩, k.below (by omega) (fun j hj h => by have := (hoo.lt j h).1; omega)⟩
  · have := (hoo.lt j h).1; exact ⟨by omega, Or.inl (by omega)⟩
  · have := (hoo.lt j h).1; have e := gb_own hj; omega
  · have := (hoo.lt pb h).1; omega
  · exact hd j h hj
  · have h5 := hwo.lt x e
    rcases hloc with h | h
    · exact hd x (by rw [← h]; exact hx) e
    · rw [h] at hx
      have : (w.alloc o).heap.size = x := by simpa using hx
      omega
/-- The users of a variable. -/
theorem TkS.look (s : TkS w n b g c pb gs vw vo left wait T) (v : Int) (h1 : -9223372036854775808 ≤ v) (h2 : v ≤ 9223372036854775807) : ∃ vl, (Instr.lookup 82 (.map (some b)) (.int .i64 v) false).run Try.prog w = .ok vl w ∧ Own w c vl (ofN (usrs gs gs.length 0 v)) ∧ (∀ x, vl.ownBlock = some x → x < pb) ∧ (usrs gs gs.length 0 v).length ≤ 1000000 := by
  obtain ⟨q, hq, hm⟩ := s.mg
  obtain ⟨vl, hr, ho, hln, hs, _⟩ := hm.at (t := 82) Try.underlying3 Try.underlying82 (zero_ints5 _) (by unfold maxLen; omega) v (i64w h1 h2)
  exact ⟨vl, hr, ho.1, fun x hx => (by have := hs x hx; omega), by omega⟩
theorem UsS.takes {left : List Int} (h : UsS w n b g c gs gs.length 0 left) (hsz : sizeG gs ≤ 1000000) (vz : Value) (hz : vz = .slice none 0 0) : TkS (w.alloc (.cells #[vz] 85)) n b g c w.heap.size gs vz vz left [] [] := by
  subst hz
  obtain ⟨⟨q, hq, hm⟩, ho, hl, hf, l1, l2, l3, l4, l5, l6⟩ := h
  have k := Kept.alloc (fun _ => False) w (.cells #[.slice none 0 0] 85)
  rw [List.take_length] at hq
  exact ⟨⟨q, by omega, hm.kept k (fun _ _ h => h.elim) (fun i h => Or.inr h)⟩, k.row ho (fun _ _ h => h), hl, ⟨heap_alloc_new w _, rfl⟩, Own.nil _ _, Own.nil _ _, fun x hx => (by cases hx), fun k _ h => absurd h (Nat.not_lt_zero _), l1, l2, l3, l4, l5, l6⟩
end
theorem uses_full (gs : List Gt) {i : Nat} (hi : i < gs.length) : usesAt gs gs.length 0 i = cntL gs [] i := by
  rw [cntL_nil]
  unfold usesAt
  rw [if_pos hi]
end Go.Proofs.Ytafenijbglcppaa

/- circ.taken: the walk. -/
namespace Go.Proofs.Ytafenijbglcppaa
open Go.RowKit Go.Maps
set_option linter.unusedVariables false
set_option linter.unusedSimpArgs false

theorem ofN_at5 (l : List Nat) (k : Nat) : (ofN l).getD k 0 = ((l.getD k 0 : Nat) : Int) := by
  simp only [ofN, List.getD_eq_getElem?_getD, List.getElem?_map]
  cases l[k]? <;> rfl
/-- What taken hands back. -/
def TakenPost (w : World) (ins : List Int) (gs : List Gt) (e : Ending) (w' : World) : Prop :=
  ∃ ov T, e = .returned ov ∧ OrdR ins gs [] T ∧ T.Nodup ∧ (∀ i ∈ T, i < gs.length) ∧ Own w' w.heap.size ov (ofN T) ∧ Below w.heap.size w w'
/-- On the way. -/
def TkR (w0 wr : World) (n b g c pb : Nat) (ins : List Int) (gs : List Gt) (gk : Nat) (ov : Value) : Prop :=
  ∃ vw left wait T, TkS wr n b g c pb gs vw ov left wait T ∧ OInv ins gs T left wait ∧ Below w0.heap.size w0 wr ∧ gk = gs.length - T.length ∧ ∀ r, OrdR ins gs T r → OrdR ins gs [] (T ++ r)
/-- The first ones that wait for nothing. -/
def Wt0 (left wait : List Int) (k : Nat) : Prop := wait.Nodup ∧ wait.length ≤ k ∧ ∀ y, y ∈ wait ↔ ∃ u : Nat, y = (u : Int) ∧ u < k ∧ left.getD u 0 = 0
theorem Wt0.skip {left wait : List Int} {k : Nat} (h : Wt0 left wait k) (hk : left.getD k 0 ≠ 0) : Wt0 left wait (k + 1) := by
  refine ⟨h.1, Nat.le_succ_of_le h.2.1, fun y => ?_⟩
  rw [h.2.2]
  constructor
  · rintro ⟨u, e, h1, h2⟩; exact ⟨u, e, by omega, h2⟩
  · rintro ⟨u, e, h1, h2⟩
    have : u ≠ k := fun e => by subst e; exact hk h2
    exact ⟨u, e, by omega, h2⟩
theorem Wt0.push {left wait m : List Int} {k : Nat} (h : Wt0 left wait k) (hk : left.getD k 0 = 0) (hl : m.length = wait.length + 1) (hm : ∀ y, y ∈ m ↔ y = (k : Int) ∨ y ∈ wait) : Wt0 left m (k + 1) := by
  have hn : (k : Int) ∉ wait := fun e => by obtain ⟨u, e1, h1, _⟩ := (h.2.2 _).1 e; have := Int.ofNat.inj e1; omega
  refine ⟨nodup_cover (List.nodup_cons.2 ⟨hn, h.1⟩) (fun y hy => (hm y).2 (by rw [List.mem_cons] at hy; exact hy)) (by simp; omega), by have := h.2.1; omega, fun y => ?_⟩
  rw [hm, h.2.2]
  constructor
  · rintro (rfl | ⟨u, e, h1, h2⟩)
    · exact ⟨k, rfl, by omega, hk⟩
    · exact ⟨u, e, by omega, h2⟩
  · rintro ⟨u, e, h1, h2⟩
    by_cases e2 : u = k
    · subst e2; exact Or.inl e
    · exact Or.inr ⟨u, e, by omega, h2⟩

theorem TkS.shape {w : World} {n b g c pb : Nat} {gs : List Gt} {vw vo : Value} {left wait : List Int} {T : List Nat} (s : TkS w n b g c pb gs vw vo left wait T) : ∃ a cap, vo = .slice a T.length cap := by
  obtain ⟨a, cap, e⟩ := own_shC s.oo
  exact ⟨a, cap, by rw [e, ofN_len]⟩
set_option maxHeartbeats 6400000 in
set_option maxRecDepth 100000 in
theorem taken_any (ins : List Int) (vg : Value) (gs : List Gt) (w : World) (HG : IsGates w vg gs) (hg : gs.length < 1000000) (hlo : looseN ins gs = true) (hsz : sizeG gs ≤ 200000) :
    Calls Try.prog 16 #[vg] w (TakenPost w ins gs) := by
  have HNDV := Lib.hid ((List.nodup_append.1 (loose_parts hlo).1.1).2.1)
  have HU := Lib.hid (users_any vg gs w HG hg HNDV.out hsz)
  have HGW := Lib.hid HG
  have HGB := Lib.hid HG.bd
  have HLO := Lib.hid hlo
  have HSZ := Lib.hid hsz
  have HGL := Lib.hid hg
  have hta : ∀ (x : Int) (w : World), (Instr.typeAssert (.iface 3 (.int .i64 x)) 20 3 false).run Try.prog w = .ok (.int .i64 x) w := fun _ _ => by kernel_rfl
  obtain ⟨ga, gc, rfl, hg44⟩ := HG.shape
  clear HG hlo hsz hg
  go_enter Try.func16, Try.ntmps16
  go_upto_region 2 with (go_at_call 38; refine HU.out.mono ?_; rintro e w1 ⟨b, g, c, left, rfl, hus, hb1⟩; have HUS := Lib.hid hus; have HB1 := Lib.hid hb1; clear hus hb1)
  obtain ⟨w2, hw2⟩ : ∃ w2, w1.alloc (.cells #[.slice none 0 0] 85) = w2 := ⟨_, rfl⟩
  have HT0 : Hid (TkS w2 (w.heap.size + 1) b g c w1.heap.size gs (.slice none 0 0) (.slice none 0 0) left [] []) := by
    show TkS _ _ _ _ _ _ _ _ _ _ _ _
    rw [← hw2]
    exact UsS.takes HUS.out (by have := HSZ.out; omega) _ rfl
  have HB2 : Hid (Below w.heap.size w w2) := by show Below _ _ _; rw [← hw2]; exact HB1.out.alloc HB1.out.size _
  have HLF : Hid (∀ i, i < gs.length → left.getD i 0 = (cntL gs [] i : Int)) := fun i hi => by rw [HUS.out.lf i hi, uses_full gs hi]
  have HLB : Hid (∀ i, i < gs.length → 0 ≤ left.getD i 0 ∧ left.getD i 0 ≤ 200000) := fun i hi => by
    rw [HLF.out i hi]
    have h1 : cntL gs [] i ≤ (gs.getD i dG).2.2.length := List.countP_le_length
    have h2 : sizeG (gs.take i) + (gs.getD i dG).2.2.length ≤ 200000 := by rw [← sizeG_take hi]; exact Nat.le_trans (sizeG_le gs _) HSZ.out
    omega
  have HW2 := Lib.hid hw2
  have HPB : Hid (w.heap.size + 1 ≤ w1.heap.size) := by have := HUS.out.lay; show _ ≤ _; omega
  clear hw2 HUS HB1
  go_upto_region 3 with fail
  rw [HW2.out]
  clear HW2
  obtain ⟨pb, hpb⟩ : ∃ pb, w1.heap.size = pb := ⟨_, rfl⟩
  rw [hpb] at HT0 HPB ⊢
  clear hpb
  go_wp2
  go_loopw [19] (fun i wr => ∃ (k : Nat) (vw : Value) (wait : List Int), k ≤ gs.length ∧ i = .int .i64 k ∧ TkS wr (w.heap.size + 1) b g c pb gs vw (.slice none 0 0) left wait [] ∧ Wt0 left wait k ∧ Below w.heap.size w wr) (fun i _ => gs.length - (intOf i).toNat)
  case atStart => exact ⟨0, _, [], Nat.zero_le _, rfl, HT0.out, ⟨by simp, Nat.le_refl _, fun y => ⟨fun h => (by cases h), fun ⟨u, _, h, _⟩ => absurd h (Nat.not_lt_zero _)⟩⟩, HB2.out⟩
  case round =>
    clear HT0 HB2
    obtain ⟨k, vw, wait, hk, rfl, hts, hwt, hbel⟩ := hrel
    have HT := Lib.hid hts
    have HWT := Lib.hid hwt
    have HB := Lib.hid hbel
    clear hts hwt hbel
    by_cases hlt : k < gs.length
    · have hlk : k < left.length := by rw [HT.out.ll]; exact hlt
      have hcl := (HT.out.ll ▸ HT.out.lo : Own wr (w.heap.size + 1) (.slice (some ⟨g, 0, none⟩) left.length left.length) left).cell k hlk
      have hbd := HLB.out k hlt
      have HKL := Lib.hid hlt
      have hk0 : (0 : Int) ≤ (k : Int) := by omega
      have hk1 : (k : Int) < (gs.length : Int) := by omega
      have hk2 : (k : Int) < 4000001 := by have := HGL.out; omega
      have HWS := Lib.hid (fun h => Wt0.skip HWT.out (k := k) h)
      have HWP := Lib.hid (fun h m h1 h2 => Wt0.push HWT.out (k := k) (m := m) h h1 h2)
      clear hlk hk hlt
      generalize left.getD k 0 = z at *
      by_cases hz : z = 0
      · have HC := Lib.hid (hpush_any vw wait (k : Int) (pb + 1) pb 0 _ _ wr HT.out.wo HT.out.fl (by have := HWT.out.2.1; have := HKL.out; have := HGL.out; omega) (by have := HT.out.pblt; omega) HT.out.wne HT.out.hh)
        have HZ := Lib.hid hz
        subst hz
        clear hbd
        go_wp2_with (go_at_call 39; refine HC.out.mono ?_; rintro e w3 ⟨v3, m3, rfl, hnow3, hhp3, hlen3, hmem3⟩; have HN3 := Lib.hid (HT.out.now hnow3 hhp3); have HB3 := Lib.hid (HB.out.trans ((HT.out.belowNow hnow3).mono (by have := HT.out.lay; omega))); have HW3 := Lib.hid (HWP.out HZ.out m3 hlen3 hmem3); clear hnow3 hhp3 hlen3 hmem3)
        go_roundw
        case rel => exact ⟨k + 1, v3, m3, HKL.out, by go_num, HN3.out, HW3.out, HB3.out⟩
        case measure => have := HKL.out; simp [intOf]; omega
      · have hz' : (z == 0) = false := by simpa using hz
        have HW3 := Lib.hid (HWS.out hz)
        clear hz hbd
        go_wp2
        go_roundw
        case rel => exact ⟨k + 1, vw, wait, HKL.out, by go_num, HT.out, HW3.out, HB.out⟩
        case measure => have := HKL.out; simp [intOf]; omega
    · have HK : Hid (k = gs.length) := by show _ = _; omega
      have HOI : Hid (OInv ins gs [] left wait) := ⟨by simp, by simp, by simp, HT.out.ll, HLF.out, HWT.out.1, fun y => by
        rw [HWT.out.2.2, HK.out]
        constructor
        · rintro ⟨u, e, h1, h2⟩; exact ⟨u, e, h1, by simp, by have := HLF.out u h1; omega⟩
        · rintro ⟨u, e, h1, _, h2⟩; exact ⟨u, e, h1, by have := HLF.out u h1; omega⟩⟩
      have HR0 : Hid (TkR w wr (w.heap.size + 1) b g c pb ins gs gs.length (.slice none 0 0)) := ⟨vw, left, wait, [], HT.out, HOI.out, HB.out, by simp, fun r h => h⟩
      go_wp2
      clear hk hlt HK HOI HT HWT HB HLF HLB hg44
      generalize wr = wz at *
      go_loopg [8] (gs.length) (fun gk ov wr => TkR w wr (w.heap.size + 1) b g c pb ins gs gk ov)
      case atStart => exact HR0.out
      case round =>
        clear HR0
        obtain ⟨vw, left, wait, T, hts, hoi, hbel, hgk, hrun⟩ := hrel
        obtain ⟨oa, oc, rfl⟩ := hts.shape
        have HT := Lib.hid hts
        have HOI := Lib.hid hoi
        have HB := Lib.hid hbel
        have HRun := Lib.hid hrun
        have HGK := Lib.hid hgk
        have hfc := hts.fl.cell
        clear hts hoi hbel hrun hgk
        have HW := Lib.hid (wlen_any vw wait (pb + 1) wr HT.out.wo)
        by_cases hw : 0 < wait.length
        · obtain ⟨m, hwm⟩ : ∃ m, wait.length = m + 1 := ⟨wait.length - 1, by omega⟩
          have hwl : wait.length ≤ gs.length := by
            have h1 := HOI.out.wn
            have h2 : wait.length ≤ ((List.range gs.length).map (fun u : Nat => (u : Int))).length := h1.length_le_of_subset (fun y hy => by
              obtain ⟨u, e, h3, _⟩ := (HOI.out.wt y).1 hy
              exact List.mem_map.2 ⟨u, List.mem_range.2 h3, e.symm⟩)
            rwa [List.length_map, List.length_range] at h2
          have hmin : wait.getD 0 0 ∈ wait := ints_getD_mem hw
          obtain ⟨i, hwi, hil, hiT, hiz⟩ := (HOI.out.wt _).1 hmin
          have HPop : Hid (Calls Try.prog 41 #[.iface 87 (.pointer (some ⟨pb, 0, none⟩))] wr (fun e w2 => ∃ v2 m2, e = .returned (.iface 3 (.int .i64 (i : Int))) ∧ TkS w2 (w.heap.size + 1) b g c pb gs v2 (.slice oa T.length oc) left m2 T ∧ MInv ins gs T i 0 left m2 ∧ Below w.heap.size w w2)) := by
            refine (hpop_any vw wait m (pb + 1) pb 0 _ _ wr HT.out.wo HT.out.fl hwm (by have := HGL.out; omega) HT.out.wne HT.out.hh).mono ?_
            rintro e w2 ⟨v2, m2, he, hnow, hhp2, hlen2, hmem2, _⟩
            obtain ⟨i', e', hmi⟩ := HOI.out.pop (x := wait.getD 0 0) hmem2 hlen2
            rw [hwi] at e' he
            obtain rfl : i = i' := Int.ofNat.inj e'
            exact ⟨v2, m2, he, HT.out.now hnow hhp2, hmi, HB.out.trans ((HT.out.belowNow hnow).mono (by have := HT.out.lay; omega))⟩
          have HNX : Hid (isNext ins gs T i) := HOI.out.next HLO.out (hwi ▸ hmin) (fun y hy => by
            obtain ⟨k, hk, e⟩ := (inN_mem wait y).2 hy
            rw [← e, ← hwi]
            exact hp_least HT.out.hh k hk)
          have HIL := Lib.hid hil
          obtain ⟨pb2, off, u, rfl, hb, hcx0, hck0, hcu0, HU0, hrg⟩ := HGW.out.at hil
          have HCX : Hid (∀ X, Below w.heap.size w X → X.cell? ⟨pb2, off + i * 3, none⟩ = some (.int .i64 (gs.getD i dG).1)) := fun X hX => (hX.cell (p := ⟨pb2, off + i * 3, none⟩) hb).trans hcx0
          have HV64 := Lib.hid hrg.1
          have hi0 : (0 : Int) ≤ (i : Int) := by omega
          have hi1 : (i : Int) < (gs.length : Int) := by omega
          have hi2 : (i : Int) < 4000001 := by have := HGL.out; omega
          have hTl : T.length ≤ gs.length := order_len HOI.out.nd HOI.out.lt
          have HTL := Lib.hid hTl
          have HIX := Lib.hid (And.intro hi0 (And.intro hi1 hi2))
          clear hwi hmin hiT hiz hwl hwm hcx0 hck0 hcu0 HU0 hrg hil hTl hi0 hi1 hi2
          go_wp2_with (first
            | (go_at_call 40; refine HW.out.mono ?_; rintro e w1 ⟨rfl, rfl⟩)
            | (go_at_call 41; refine HPop.out.mono ?_; rintro e w3 ⟨v2, m2, rfl, hts2, hmi2, hbel2⟩; have HT2 := Lib.hid hts2; have HMI2 := Lib.hid hmi2; have HB2 := Lib.hid hbel2; clear hts2 hmi2 hbel2 hfc)
            | (at_builtin; refine wpList_app1T rfl (.tmp 37) (.tmp 39) 28 Try.underlying28 rfl (pb + 1) (.slice oa T.length oc) (ofN T) (i : Int) w3.heap.size rfl rfl (HT2.out.oo.alloc _) (by simp) (by have := HTL.out; have := HGL.out; rw [ofN_len]; omega) (by have := HT2.out.pblt; simp; omega) ?_; intro v4 w4 ho4 hg4 hl4; have HT4 := Lib.hid (HT2.out.app ho4 hg4 hl4).1; have HB4 := Lib.hid (HB2.out.trans ((HT2.out.app ho4 hg4 hl4).2.mono (by have := HT2.out.lay; omega))); clear ho4 hg4 hl4; obtain ⟨ob, oe, rfl⟩ := HT4.out.shape; rw [show (T ++ [i]).length = T.length + 1 from List.length_append] at HT4; obtain ⟨vl, hrunV, hoV, hvV, hLn⟩ := HT4.out.look (gs.getD i dG).1 HV64.out.1 HV64.out.2; have hcx := HCX.out w4 HB4.out; obtain ⟨L, hL⟩ : ∃ L, usrs gs gs.length 0 (gs.getD i dG).1 = L := ⟨_, rfl⟩; rw [hL] at hoV hLn; have HLN := Lib.hid hLn; clear hLn; obtain ⟨la, lc, rfl⟩ := own_shC hoV; rw [ofN_len] at hoV hvV hrunV; have HOV := Lib.hid hoV; have HVV := Lib.hid hvV; have HTD := Lib.hid (fun (m u : Nat) (l wt : List Int) (h : MInv ins gs T i m l wt) (h1 : m < L.length) (h2 : L.getD m 0 = u) => h.told HLO.out (show m < (usrs gs gs.length 0 (gs.getD i dG).1).length from hL.symm ▸ h1) (show (usrs gs gs.length 0 (gs.getD i dG).1).getD m 0 = u from hL.symm ▸ h2)); have HFN := Lib.hid (fun (l wt : List Int) (h : MInv ins gs T i L.length l wt) => MInv.fin (show MInv ins gs T i (usrs gs gs.length 0 (gs.getD i dG).1).length l wt from hL.symm ▸ h) HLO.out); clear hL hoV hvV; obtain ⟨hi0, hi1, hi2⟩ := HIX.out; generalize (gs.getD i dG).1 = y1 at *))
          clear hcx hi0 hi1 hi2 hw hrunV
          generalize wr = wy at *
          go_loopw [49] (fun si wr => ∃ (m : Nat) (vw : Value) (left wait : List Int), m ≤ L.length ∧ si = .int .i64 m ∧ TkS wr (w.heap.size + 1) b g c pb gs vw (.slice ob (T.length + 1) oe) left wait (T ++ [i]) ∧ MInv ins gs T i m left wait ∧ Below w.heap.size w wr ∧ Own wr c (.slice la L.length lc) (ofN L)) (fun si _ => L.length - (intOf si).toNat)
          case atStart => exact ⟨0, v2, left, m2, Nat.zero_le _, rfl, HT4.out, HMI2.out, HB4.out, HOV.out⟩
          case round =>
            clear HT4 HMI2 HB4 HOV HT HOI HB HW HPop HT2 HB2
            obtain ⟨m, vw, left, wait, hm, rfl, hts, hmi, hbel, hol⟩ := hrel
            have HT := Lib.hid hts
            have HMI := Lib.hid hmi
            have HB := Lib.hid hbel
            have HOL := Lib.hid hol
            clear hts hmi hbel hol
            by_cases hlt : m < L.length
            · obtain ⟨gl, cl, ev, _, _⟩ := HOL.out.at (show 0 < (ofN L).length by rw [ofN_len]; omega)
              injection ev with e1 e2 e3
              clear e2
              subst e1; subst e3
              have hy := HOL.out.cell m (show m < (ofN L).length by rw [ofN_len]; exact hlt)
              rw [ofN_at5] at hy
              obtain ⟨u, hu⟩ : ∃ u, L.getD m 0 = u := ⟨_, rfl⟩
              rw [hu] at hy
              obtain ⟨hul, hz1, hz2, hne, hpu⟩ := HTD.out m u left wait HMI.out hlt hu
              have HNE := Lib.hid hne
              have HPU := Lib.hid hpu
              have hlk : u < left.length := by rw [HT.out.ll]; exact hul
              have hlo2 := (HT.out.ll ▸ HT.out.lo : Own wr (w.heap.size + 1) (.slice (some ⟨g, 0, none⟩) left.length left.length) left)
              have hcl := hlo2.cell u hlk
              have hfz := hlo2.frozen u
              have hz3 : left.getD u 0 ≤ 200000 := by
                have h1 : cntL gs T u ≤ (gs.getD u dG).2.2.length := List.countP_le_length
                have h2 : sizeG (gs.take u) + (gs.getD u dG).2.2.length ≤ 200000 := by rw [← sizeG_take hul]; exact Nat.le_trans (sizeG_le gs _) HSZ.out
                omega
              have HT5 := Lib.hid (HT.out.setLeft u (left.getD u 0 - 1))
              have HB5 := Lib.hid (HB.out.setCell (p := ⟨g, u, none⟩) (by have := HT.out.lay; show _ ≤ g; omega) (.int .i64 (left.getD u 0 - 1)))
              have HO5 := Lib.hid (HT.out.rowSet HOL.out u (left.getD u 0 - 1))
              have hwl : wait.length ≤ gs.length := by
                have h1 := HMI.out.wn
                have h2 : wait.length ≤ ((List.range gs.length).map (fun u : Nat => (u : Int))).length := h1.length_le_of_subset (fun y hy => by
                  obtain ⟨u, e, h3, _⟩ := (HMI.out.wt y).1 hy
                  exact List.mem_map.2 ⟨u, List.mem_range.2 h3, e.symm⟩)
                rwa [List.length_map, List.length_range] at h2
              have HWL := Lib.hid hwl
              have HML := Lib.hid hlt
              have HUL := Lib.hid hul
              have hm2 : m < 4000001 := by have := HLN.out; omega
              clear hne hpu hlk hlo2 hwl hu hz2 hm
              generalize left.getD u 0 = z at *
              have hz0 : -1 ≤ z := by omega
              by_cases hpush : z - 1 = 0
              · obtain rfl : z = 1 := by omega
                have e21 : (1 : Int) - 1 = 0 := by decide
                have HP2 := Lib.hid (HPU.out hpush)
                rw [e21] at HT5 HB5 HO5 HP2
                have HC := Lib.hid (hpush_any vw wait (u : Int) (pb + 1) pb 0 _ _ _ HT5.out.wo HT5.out.fl (by have := HWL.out; have := HGL.out; omega) (by have := HT5.out.pblt; omega) HT5.out.wne HT5.out.hh)
                clear hpush e21
                go_wp2_with (go_at_call 39; refine HC.out.mono ?_; rintro e w3 ⟨v3, m3, rfl, hnow3, hhp3, hlen3, hmem3⟩; have HN3 := Lib.hid (HT5.out.now hnow3 hhp3); have HB3 := Lib.hid (HB5.out.trans ((HT5.out.belowNow hnow3).mono (by have := HT5.out.lay; omega))); have HO3 := Lib.hid (HT5.out.rowNow hnow3 HO5.out HVV.out); have HM3 := Lib.hid (HP2.out.2 m3 hlen3 hmem3); clear hnow3 hhp3 hlen3 hmem3)
                go_roundw
                case rel => exact ⟨m + 1, v3, _, m3, HML.out, by go_num, HN3.out, HM3.out, HB3.out, HO3.out⟩
                case measure => have := HML.out; simp [intOf]; omega
              · have hp' : (z - 1 == 0) = false := by simpa using hpush
                have HM3 := Lib.hid (HNE.out hpush)
                clear hpush
                go_wp2
                go_roundw
                case rel => exact ⟨m + 1, vw, _, wait, HML.out, by go_num, HT5.out, HM3.out, HB5.out, HO5.out⟩
                case measure => have := HML.out; simp [intOf]; omega
            · have HK : Hid (m = L.length) := by show _ = _; omega
              have HOI2 : Hid (OInv ins gs (T ++ [i]) left wait) := by have h := HMI.out; rw [HK.out] at h; exact HFN.out _ _ h
              go_wp2
              go_roundg (gk - 1)
              case measure => have := HGK.out; have := order_len HOI2.out.nd HOI2.out.lt; rw [List.length_append] at this; simp at this; omega
              case rel => exact ⟨vw, left, wait, T ++ [i], HT.out, HOI2.out, HB.out, by rw [List.length_append]; have := HGK.out; simp; omega, fun r hr => by rw [List.append_assoc]; exact HRun.out _ (.step HNX.out hr)⟩
        · have hwe : wait = [] := List.eq_nil_of_length_eq_zero (by omega)
          subst hwe
          have HR : Hid (TakenPost w ins gs (.returned (.slice oa T.length oc)) wr) := ⟨_, T, rfl, by have := HRun.out [] (.done (HOI.out.over HLO.out)); rwa [List.append_nil] at this, HOI.out.nd, HOI.out.lt, HT.out.oo.mono (by have := HPB.out; omega), HB.out⟩
          go_wp2_with (go_at_call 40; refine HW.out.mono ?_; rintro e w1 ⟨rfl, rfl⟩)
          go_ret
          exact HR.out
end Go.Proofs.Ytafenijbglcppaa

/- circ.Order. -/
namespace Go.Proofs.Ytafenijbglcppaa
open Go.RowKit Go.Maps
set_option linter.unusedVariables false
set_option linter.unusedSimpArgs false

/-- What Order hands back. -/
def OrderPost (w : World) (ins : List Int) (gs : List Gt) (e : Ending) (w' : World) : Prop :=
  Below w.heap.size w w' ∧ ((looseN ins gs = false ∧ e = .returned (.tuple #[.slice none 0 0, .int .i64 2])) ∨ (looseN ins gs = true ∧ 200000 < sizeG gs ∧ e = .returned (.tuple #[.slice none 0 0, .int .i64 3])) ∨
    (looseN ins gs = true ∧ sizeG gs ≤ 200000 ∧ ∃ T, OrdR ins gs [] T ∧ T.Nodup ∧ (∀ i ∈ T, i < gs.length) ∧ ((T.length < gs.length ∧ e = .returned (.tuple #[.slice none 0 0, .int .i64 50])) ∨
      (T.length = gs.length ∧ ∃ v t, e = .returned (.tuple #[v, .int .i64 0]) ∧ RowG w w' w.heap.size v t ∧ shapeG t = T.map (fun i => gs.getD i dG)))))
theorem order_at {gs : List Gt} {T : List Nat} {k : Nat} (h : k < T.length) : (T.take (k + 1)).map (fun i => gs.getD i dG) = (T.take k).map (fun i => gs.getD i dG) ++ [gs.getD (T.getD k 0) dG] := by
  rw [List.take_succ_eq_append_getElem h, List.map_append]
  simp [List.getD, h]

/-- The world in which a gate's copy is put behind the others. -/
structure OrdFin (w0 wr : World) (B : Nat) (t : List Tg) (v : Value) (y : Tg) (gb : Nat) (w5 : World) : Prop where
  row : ((w5.setCell ⟨gb, 2, none⟩ y.2.2.1).alloc (.cells #[.int .i64 y.1, .int .u8 y.2.1, y.2.2.1] 34)).ownsRow B 34 3 v t.length (cellsG t)
  c0 : ((w5.setCell ⟨gb, 2, none⟩ y.2.2.1).alloc (.cells #[.int .i64 y.1, .int .u8 y.2.1, y.2.2.1] 34)).cell? ⟨w5.heap.size, 0, none⟩ = some (.int .i64 y.1)
  c1 : ((w5.setCell ⟨gb, 2, none⟩ y.2.2.1).alloc (.cells #[.int .i64 y.1, .int .u8 y.2.1, y.2.2.1] 34)).cell? ⟨w5.heap.size, 1, none⟩ = some (.int .u8 y.2.1)
  c2 : ((w5.setCell ⟨gb, 2, none⟩ y.2.2.1).alloc (.cells #[.int .i64 y.1, .int .u8 y.2.1, y.2.2.1] 34)).cell? ⟨w5.heap.size, 2, none⟩ = some y.2.2.1
  sz : B ≤ ((w5.setCell ⟨gb, 2, none⟩ y.2.2.1).alloc (.cells #[.int .i64 y.1, .int .u8 y.2.1, y.2.2.1] 34)).heap.size
  more : ∀ v6 w6, w6.ownsRow B 34 3 v6 (t ++ [y]).length (cellsG (t ++ [y])) → ((w5.setCell ⟨gb, 2, none⟩ y.2.2.1).alloc (.cells #[.int .i64 y.1, .int .u8 y.2.1, y.2.2.1] 34)).grownBy w6 v.ownBlock → RowG w0 w6 B v6 (t ++ [y]) ∧ Below B wr w6
theorem ord_fin {w0 wr wa w5 : World} {B gb : Nat} {t : List Tg} {v u : Value} {y1 y2 : Int} {y3 : List Int} (HR : RowG w0 wr B v t) (hB : B ≤ wr.heap.size) (ho : Own w5 wa.heap.size u y3) (hb : Below wa.heap.size wa w5) (hgb : wr.heap.size = gb) (hsw : wr.heap.size < wa.heap.size) (ha : Below wr.heap.size wr wa) (hbd : gBd (y1, y2, y3)) :
    OrdFin w0 wr B t v (y1, y2, u, y3) gb w5 := by
  subst hgb
  have e : (w5.setCell ⟨wr.heap.size, 2, none⟩ u).heap.size = w5.heap.size := by simp [World.setCell]
  have hz := hb.size
  have hbz : Below wr.heap.size wr ((w5.setCell ⟨wr.heap.size, 2, none⟩ u).alloc (.cells #[.int .i64 y1, .int .u8 y2, u] 34)) := ((ha.trans (hb.mono (by omega))).setCell (p := ⟨wr.heap.size, 2, none⟩) (Nat.le_refl _) u).alloc (by rw [e]; omega) _
  have hc : ∀ i x, (#[.int .i64 y1, .int .u8 y2, u] : Array Value)[i]? = some x → ((w5.setCell ⟨wr.heap.size, 2, none⟩ u).alloc (.cells #[.int .i64 y1, .int .u8 y2, u] 34)).cell? ⟨w5.heap.size, i, none⟩ = some x := fun i x h => by rw [← e]; exact cell_fresh h
  have hk : Kept (fun k => k = wr.heap.size) w5 ((w5.setCell ⟨wr.heap.size, 2, none⟩ u).alloc (.cells #[.int .i64 y1, .int .u8 y2, u] 34)) := (Kept.setCell w5 ⟨wr.heap.size, 2, none⟩ u).trans (Kept.alloc _ _ _)
  have ho1 : Own ((w5.setCell ⟨wr.heap.size, 2, none⟩ u).alloc (.cells #[.int .i64 y1, .int .u8 y2, u] 34)) wa.heap.size u y3 := hk.row ho (fun g hg h => by have := (ho.lt g hg).1; omega)
  have ho2 := ho1.mono (show B ≤ wa.heap.size by omega)
  refine ⟨(HR.below' hbz (Nat.le_refl _)).row, hc 0 _ rfl, hc 1 _ rfl, hc 2 _ rfl, by rw [World.size_alloc, e]; omega, fun v6 w6 hrow6 hg6 => ⟨?_, ?_⟩⟩
  · exact HR.more hB hbz (fun x hx => by rw [List.mem_singleton] at hx; subst hx; exact .inl ho2) (fun g hg => by simp [shapeG] at hg; subst hg; exact hbd) hrow6 hg6
  · exact (hbz.mono hB).grown hg6 (by have := hbz.size; omega) (fun g hg => (rowG_lt HR.row g hg).1)
set_option maxHeartbeats 6400000 in
set_option maxRecDepth 100000 in
theorem corder_any (vi vg : Value) (ins : List Int) (gs : List Gt) (w : World) (HI : IsInts w vi ins) (HG : IsGates w vg gs) (hi : ins.length < 1000000) (hg : gs.length < 1000000) (hs : sizeG gs ≤ 4000000) :
    Calls Try.prog 6 #[vi, vg] w (OrderPost w ins gs) := by
  have HA := Lib.hid (areg_any vi vg ins gs w HI HG hi hg)
  have HSZ : Hid (∀ X, Below w.heap.size w X → Calls Try.prog 15 #[vg] X fun e w' => e = .returned (.int .i64 (sizeG gs : Int)) ∧ Below X.heap.size X w') := fun X hX => csize_any vg gs X (HG.below hX (Nat.le_refl _)) hs hg
  have HTK : Hid (looseN ins gs = true → sizeG gs ≤ 200000 → ∀ X, Below w.heap.size w X → Calls Try.prog 16 #[vg] X (TakenPost X ins gs)) := fun h1 h2 X hX => taken_any ins vg gs X (HG.below hX (Nat.le_refl _)) hg h1 h2
  have HGW := Lib.hid HG
  have HGB := Lib.hid HG.bd
  obtain ⟨ia, ic, rfl⟩ := HI.shape
  obtain ⟨ga, gc, rfl, _⟩ := HG.shape
  clear HI HG
  cases hl : looseN ins gs with
  | false =>
    rw [hl] at HA
    have HL := Lib.hid hl
    clear hl
    go_enter Try.func6, Try.ntmps6
    go_wp2_with (go_at_call 14; refine HA.out.mono ?_; rintro e w1 ⟨rfl, hb1⟩)
    go_ret2
    exact ⟨hb1, .inl ⟨HL.out, rfl⟩⟩
  | true =>
    rw [hl] at HA
    have HL := Lib.hid hl
    have HTK2 := Lib.hid (HTK.out hl)
    clear hl HTK
    by_cases hbig : 200000 < sizeG gs
    · have hbi : (200000 : Int) < (sizeG gs : Int) := by omega
      have HBG := Lib.hid hbig
      clear hbig hs
      obtain ⟨sz, hsz⟩ : ∃ sz, sizeG gs = sz := ⟨_, rfl⟩
      rw [hsz] at hbi HSZ
      clear hsz
      go_enter Try.func6, Try.ntmps6
      go_wp2_with (first
        | (go_at_call 14; refine HA.out.mono ?_; rintro e w1 ⟨rfl, hb1⟩; have HB1 := Lib.hid hb1; clear hb1)
        | (go_at_call 15; refine (HSZ.out w1 HB1.out).mono ?_; rintro e w2 ⟨rfl, hb2⟩; have HB2 := Lib.hid (HB1.out.trans (hb2.mono HB1.out.size)); clear hb2))
      go_ret2
      exact ⟨HB2.out, .inr (.inl ⟨HL.out, HBG.out, rfl⟩)⟩
    · have hbi : ¬ ((200000 : Int) < (sizeG gs : Int)) := by omega
      have HBG : Hid (sizeG gs ≤ 200000) := by show _ ≤ _; omega
      have HTK3 := Lib.hid (HTK2.out HBG.out)
      clear hbig hs HTK2
      obtain ⟨sz, hsz⟩ : ∃ sz, sizeG gs = sz := ⟨_, rfl⟩
      rw [hsz] at hbi HSZ
      clear hsz
      go_enter Try.func6, Try.ntmps6
      go_upto_region 6 with (first
        | (go_at_call 14; refine HA.out.mono ?_; rintro e w1 ⟨rfl, hb1⟩; have HB1 := Lib.hid hb1; clear hb1)
        | (go_at_call 15; refine (HSZ.out w1 HB1.out).mono ?_; rintro e w2 ⟨rfl, hb2⟩; have HB2 := Lib.hid (HB1.out.trans (hb2.mono HB1.out.size)); clear hb2)
        | (go_at_call 16; refine (HTK3.out w2 HB2.out).mono ?_; rintro e w3 ⟨ov, T, rfl, hord, hnd, hlt, hown, hb3⟩; have HB3 := Lib.hid (HB2.out.trans (hb3.mono HB2.out.size)); have HORD := Lib.hid hord; have HND := Lib.hid hnd; have HLT := Lib.hid hlt; have HOW := Lib.hid (hown.mono HB2.out.size); clear hord hnd hlt hown hb3))
      clear hbi
      obtain ⟨oa, oc, rfl⟩ : ∃ oa oc, ov = .slice oa T.length oc := by
        obtain ⟨oa, oc, e⟩ := own_shC HOW.out
        exact ⟨oa, oc, by rw [e, ofN_len]⟩
      by_cases hsh : T.length < gs.length
      · have HSH := Lib.hid hsh
        have hsi : (T.length : Int) < (gs.length : Int) := by omega
        clear hsh
        go_wp2
        go_ret2
        exact ⟨HB3.out, .inr (.inr ⟨HL.out, HBG.out, T, HORD.out, HND.out, HLT.out, .inl ⟨HSH.out, rfl⟩⟩)⟩
      · have HLE : Hid (T.length = gs.length) := by have := order_len HND.out HLT.out; show _ = _; omega
        have hsi : ¬ ((T.length : Int) < (gs.length : Int)) := by omega
        have HSZ3 := Lib.hid HB3.out.size
        clear hsh HA HSZ HTK3 HB1 HB2
        go_wp2
        clear hsi
        go_loopw [7, 27] (fun out i wr => ∃ (k : Nat) (t : List Tg), k ≤ T.length ∧ i = .int .i64 k ∧ RowG w wr w3.heap.size out t ∧ shapeG t = (T.take k).map (fun i => gs.getD i dG) ∧ Below w3.heap.size w3 wr) (fun _ i _ => T.length - (intOf i).toNat)
        case atStart => exact ⟨0, [], Nat.zero_le _, rfl, RowG.nil HB3.out HSZ3.out, rfl, Below.refl _ _⟩
        case round =>
          obtain ⟨k, t, hk, rfl, hrow, hsh, hbel⟩ := hrel
          have HRW := Lib.hid hrow
          have HSH := Lib.hid hsh
          have HB := Lib.hid hbel
          have hszr := hbel.size
          obtain ⟨ra, rc, rfl⟩ := hrow.shape
          have HTL : Hid (t.length = k) := by
            show _ = _
            have h1 := congrArg List.length hsh
            rw [shapeG_len, List.length_map, List.length_take] at h1
            omega
          clear hrow hsh hbel
          by_cases hlt : k < T.length
          · obtain ⟨gl, cl, ev, _, hgl⟩ := HOW.out.at (show 0 < (ofN T).length by rw [ofN_len]; omega)
            injection ev with e1 e2 e3
            clear e2
            subst e1; subst e3
            have hy := (HB.out.cell (p := ⟨gl, k, none⟩) hgl).trans (HOW.out.cell k (show k < (ofN T).length by rw [ofN_len]; exact hlt))
            rw [ofN_at5] at hy
            have hil : T.getD k 0 < gs.length := HLT.out _ (by simp [List.getD, hlt])
            have HST := Lib.hid (order_at (gs := gs) hlt)
            obtain ⟨i, hi'⟩ : ∃ i, T.getD k 0 = i := ⟨_, rfl⟩
            rw [hi'] at hy hil HST
            obtain ⟨pb, off, u, rfl, hb, hcx0, hck0, hcu0, HU0, hrg⟩ := HGW.out.at hil
            have HBW := Lib.hid (HB3.out.trans (HB.out.mono HSZ3.out))
            have hcx := (HBW.out.cell (p := ⟨pb, off + i * 3, none⟩) hb).trans hcx0
            have hck := (HBW.out.cell (p := ⟨pb, off + i * 3 + 1, none⟩) hb).trans hck0
            have hcu := (HBW.out.cell (p := ⟨pb, off + i * 3 + 2, none⟩) hb).trans hcu0
            have HGBJ := Lib.hid (HGB.out _ (show gs.getD i dG ∈ gs by simp [List.getD, hil]))
            have HU := Lib.hid HU0
            obtain ⟨ua, uc, rfl⟩ := HU0.shape
            have HKL := Lib.hid hlt
            have hk2 : k < 4000001 := by have := HLE.out; omega
            clear hcx0 hck0 hcu0 HU0 hrg hi'
            generalize gs.getD i dG = y at *
            obtain ⟨y1, y2, y3⟩ := y
            simp only at hcx hck hcu HU HST HGBJ
            obtain ⟨wa, hwa⟩ : ∃ wa, wr.alloc (.cells #[.int .i64 y1, .int .u8 y2, .slice ua y3.length uc] 34) = wa := ⟨_, rfl⟩
            have ha : Below wr.heap.size wr wa := by rw [← hwa]; exact (Below.refl _ _).alloc (Nat.le_refl _) _
            have hh : wa.heap[wr.heap.size]? = some (.cells #[.int .i64 y1, .int .u8 y2, .slice ua y3.length uc] 34 (0, 0)) := by rw [← hwa]; exact heap_hit rfl
            have hsw : wr.heap.size < wa.heap.size := by rw [← hwa]; simp
            obtain ⟨gb, hgb⟩ : ∃ gb, wr.heap.size = gb := ⟨_, rfl⟩
            have HXC : Hid (∀ X, Below wa.heap.size wa X → X.cell? ⟨gb, 0, none⟩ = some (.int .i64 y1) ∧ X.cell? ⟨gb, 1, none⟩ = some (.int .u8 y2) ∧ X.cell? ⟨gb, 2, none⟩ = some (.slice ua y3.length uc) ∧ X.frozen? ⟨gb, 2, none⟩ = false) := fun X hX => by
              rw [← hgb]
              have h1 := (hX.block wr.heap.size hsw).trans hh
              exact ⟨block_cell h1 rfl, block_cell h1 rfl, block_cell h1 rfl, by simp [World.frozen?, h1]⟩
            have HWA := Lib.hid hwa
            have HA2 := Lib.hid ha
            have HCN : Hid (∀ X, Below wa.heap.size wa X → Calls Try.prog 17 #[.slice ua y3.length uc] X (RetOwn X y3)) := fun X hX => clone1_any _ y3 X (HU.out.below (HBW.out.trans ((HA2.out.trans (hX.mono (by omega))).mono (by have := HBW.out.size; omega))) (Nat.le_refl _))
            clear ha hh hwa
            go_upto_region 13 with fail
            rw [HWA.out]
            clear hcx hck hcu hy
            have HGE := Lib.hid hgb
            have HSW := Lib.hid hsw
            clear hgb hsw
            obtain ⟨q0, q1, q2, q3⟩ := HXC.out wa (Below.refl _ _)
            have HFIN : Hid (∀ (w5 : World) (v5 : Value), Own w5 wa.heap.size v5 y3 → Below wa.heap.size wa w5 → OrdFin w wr w3.heap.size t (.slice ra t.length rc) (y1, y2, v5, y3) gb w5) := fun w5 v5 h1 h2 => ord_fin HRW.out HB.out.size h1 h2 HGE.out HSW.out HA2.out HGBJ.out
            go_wp2_with (first
              | (go_at_call 17; refine (HCN.out wa (Below.refl _ _)).mono ?_; rintro e w5 ⟨v5, rfl, ho5, hb5⟩; clear q0 q1 q2 q3; obtain ⟨q0, q1, q2, q3⟩ := HXC.out w5 hb5; have HF5 := Lib.hid (HFIN.out w5 v5 ho5 hb5); obtain ⟨va, vc, rfl⟩ := own_shC ho5; clear ho5 hb5)
              | (at_builtin; refine wpList_appGate rfl (.tmp 39) (.tmp 41) rfl w3.heap.size (.slice ra t.length rc) t (y1, y2, .slice va y3.length vc, y3) w5.heap.size rfl rfl HF5.out.row HF5.out.c0 HF5.out.c1 HF5.out.c2 rfl (by have := HTL.out; have := HLE.out; have := HKL.out; omega) HF5.out.sz ?_; intro v6 w6 hrow6 hg6; have HR6 := Lib.hid (HF5.out.more v6 w6 hrow6 hg6); clear hrow6 hg6))
            go_roundw
            case rel => exact ⟨k + 1, _, HKL.out, by go_num, HR6.out.1, by rw [HST.out, shapeG_app, HSH.out]; rfl, HB.out.trans HR6.out.2⟩
            case measure => have := HKL.out; simp [intOf]; omega
          · have HK : Hid (k = T.length) := by show _ = _; omega
            have HR : Hid (OrderPost w ins gs (.returned (.tuple #[.slice ra t.length rc, .int .i64 0])) wr) := ⟨HB3.out.trans (HB.out.mono HSZ3.out), .inr (.inr ⟨HL.out, HBG.out, T, HORD.out, HND.out, HLT.out, .inr ⟨HLE.out, _, t, rfl, HRW.out.mono HSZ3.out (Nat.le_refl _), by rw [HSH.out, HK.out, List.take_length]⟩⟩)⟩
            go_wp2
            go_ret2
            exact HR.out
end Go.Proofs.Ytafenijbglcppaa
