/- Joined texts: CxMark, CxKnown, CxRReach, CxRGate, CxGreat, CxBools. -/
import Derived.Test.YticcikelapifaaaK17
/- Rows of marks: the reference's marks and known (layer 5). -/
namespace Go.Proofs.Yticcikelapifaaa
open Go.RowKit Go.Maps Go.Shelf
set_option linter.unusedVariables false
set_option linter.unusedSimpArgs false

theorem wpList_mkBools {w : World} {ops : Array Oper} {rest : List Oper} {o : Oper} {a : Act} {Q : Exit → Act → World → Prop} (hgd : o.guard = none) (l c : Operand)
    (hop : o.op = Op.makeSlice 42 l c) (n : Nat) (hl : a.eval l = .int .i64 (n : Int)) (hc : a.eval c = .int .i64 (n : Int)) (hn : n ≤ 17592186044416)
    (h : ∀ w', OwnB w' w.heap.size (.slice (some ⟨w.heap.size, 0, none⟩) n n) (List.replicate n false) → w.grownBy w' none → wpList Try.prog ops Q rest (a.put o.dst (.slice (some ⟨w.heap.size, 0, none⟩) n n)) w') : wpList Try.prog ops Q (o :: rest) a w := by
  obtain ⟨i0, hi, hz0, hz1, hz2⟩ := info_parts info_boolC
  refine wpList_make_full _ hgd l c 42 hop w.heap.size 4 i0 (.bool false) 1 Try.underlying42 hi hz0 hz1 _ _ _ _ n hl hc rfl rfl (by rw [hz2]; omega) (by unfold maxLen; omega) (Nat.le_refl _) ?_
  intro w1 hown hg
  refine h w1 ?_ hg
  unfold OwnB
  simp only [List.length_replicate]
  have e : (madeCells (Value.bool false).cells (n * 1)).toList = (List.replicate n false).map Value.bool := by
    rw [Nat.mul_one, show (Value.bool false).cells = #[.bool false] from rfl, toList_madeCells_one]; simp
  rw [e] at hown
  exact hown

theorem OwnB.cell {w : World} {B g n cap : Nat} {xs : List Bool} (h : OwnB w B (.slice (some ⟨g, 0, none⟩) n cap) xs) (j : Nat) (hj : j < xs.length) : w.cell? ⟨g, j, none⟩ = some (.bool (xs.getD j false)) := by
  have hn : n = xs.length := by
    rcases h.2 with ⟨e, _⟩ | ⟨g', cap', cur, e, _⟩
    · cases e
    · injection e
  subst hn
  rw [World.ownsRow.cellAt (show w.ownsRow B 4 1 _ xs.length (xs.map Value.bool) from h) j (by omega)]
  simp [hj, List.getD]
theorem OwnB.frozen {w : World} {B g n cap : Nat} {xs : List Bool} (h : OwnB w B (.slice (some ⟨g, 0, none⟩) n cap) xs) (j : Nat) : w.frozen? ⟨g, j, none⟩ = false := by
  have hn : n = xs.length := by
    rcases h.2 with ⟨e, _⟩ | ⟨g', cap', cur, e, _⟩
    · cases e
    · injection e
  subst hn
  exact World.ownsRow.frozenAt (show w.ownsRow B 4 1 _ xs.length (xs.map Value.bool) from h) j
theorem OwnB.store {w : World} {B g n cap : Nat} {xs : List Bool} (h : OwnB w B (.slice (some ⟨g, 0, none⟩) n cap) xs) (j : Nat) (y : Bool) : OwnB (w.setCell ⟨g, j, none⟩ (.bool y)) B (.slice (some ⟨g, 0, none⟩) n cap) (xs.set j y) := by
  have hn : n = xs.length := by
    rcases h.2 with ⟨e, _⟩ | ⟨g', cap', cur, e, _⟩
    · cases e
    · injection e
  subst hn
  have := (World.ownsRow.stored (show w.ownsRow B 4 1 _ xs.length (xs.map Value.bool) from h) j (.bool y)).1
  unfold OwnB
  rw [List.length_set, List.map_set]
  exact this

theorem wpList_mkBools2 {w : World} {ops : Array Oper} {rest : List Oper} {o : Oper} {a : Act} {Q : Exit → Act → World → Prop} (hgd : o.guard = none) (l c : Operand)
    (hop : o.op = Op.makeSlice 42 l c) (n : Nat) (L C : Int) (hl : a.eval l = .int .i64 L) (hc : a.eval c = .int .i64 C) (hL : L = n) (hC : C = n) (hn : n ≤ 17592186044416)
    (h : ∀ w', OwnB w' w.heap.size (.slice (some ⟨w.heap.size, 0, none⟩) n n) (List.replicate n false) → w.grownBy w' none → wpList Try.prog ops Q rest (a.put o.dst (.slice (some ⟨w.heap.size, 0, none⟩) n n)) w') : wpList Try.prog ops Q (o :: rest) a w :=
  wpList_mkBools hgd l c hop n (by rw [hl, hL]) (by rw [hc, hC]) hn h
/-- How many marks there are. -/
@[irreducible] def nM : Nat := 65537
theorem nM_eq : nM = 65537 := by unfold nM; rfl
/-- Marks in a block of the call's own. -/
def Mk (w : World) (B b : Nat) (f : Int → Bool) : Prop := ∃ bs, OwnB w B (.slice (some ⟨b, 0, none⟩) nM nM) bs ∧ bs.length = nM ∧ ∀ i : Nat, i < nM → bs.getD i false = f i
theorem Mk.lt {w : World} {B b : Nat} {f : Int → Bool} (h : Mk w B b f) : B ≤ b ∧ b < w.heap.size := by
  obtain ⟨bs, h1, _⟩ := h
  exact World.ownsRow.lt h1 b rfl
theorem Mk.cell {w : World} {B b : Nat} {f : Int → Bool} (h : Mk w B b f) {i : Nat} (hi : i < nM) : w.cell? ⟨b, i, none⟩ = some (.bool (f i)) := by
  obtain ⟨bs, h1, h2, h3⟩ := h
  rw [h1.cell i (by omega), h3 i hi]
theorem Mk.frozen {w : World} {B b : Nat} {f : Int → Bool} (h : Mk w B b f) (i : Nat) : w.frozen? ⟨b, i, none⟩ = false := by
  obtain ⟨bs, h1, h2, h3⟩ := h
  exact h1.frozen i
theorem Mk.set {w : World} {B b : Nat} {f : Int → Bool} (h : Mk w B b f) (i : Nat) (hi : i < nM) (y : Bool) : Mk (w.setCell ⟨b, i, none⟩ (.bool y)) B b (updB f i y) := by
  obtain ⟨bs, h1, h2, h3⟩ := h
  refine ⟨bs.set i y, h1.store i y, by rw [List.length_set, h2], fun j hj => ?_⟩
  unfold updB
  by_cases e : i = j
  · subst e
    rw [if_pos rfl]
    simp [List.getD, List.getElem?_set, h2, hj]
  · rw [if_neg (by omega), ← h3 j hj]
    simp [List.getD, List.getElem?_set, e]
theorem Mk.below {w w' : World} {B C b : Nat} {f : Int → Bool} (h : Mk w B b f) (hb : Below C w w') (hC : w.heap.size ≤ C) : Mk w' B b f := by
  obtain ⟨bs, h1, h2⟩ := h
  refine ⟨bs, ⟨h1.1, ?_⟩, h2⟩
  rcases h1.2 with hn | ⟨g, cap, cur, hv, hB, hg, rest⟩
  · exact .inl hn
  · exact .inr ⟨g, cap, cur, hv, hB, (hb.block g (Nat.lt_of_lt_of_le (Array.getElem?_eq_some_iff.1 hg).1 hC)).trans hg, rest⟩
theorem Mk.mono {w : World} {B B' b : Nat} {f : Int → Bool} (h : Mk w B b f) (hB : B' ≤ B) : Mk w B' b f := by
  obtain ⟨bs, h1, h2⟩ := h
  exact ⟨bs, ownB_mono h1 hB, h2⟩
theorem Mk.congr {w : World} {B b : Nat} {f g : Int → Bool} (h : Mk w B b f) (e : ∀ i : Int, 0 ≤ i → i ≤ 65536 → f i = g i) : Mk w B b g := by
  obtain ⟨bs, h1, h2, h3⟩ := h
  exact ⟨bs, h1, h2, fun i hi => by rw [h3 i hi]; exact e i (by omega) (by have := nM_eq; omega)⟩

set_option maxHeartbeats 800000 in
set_option maxRecDepth 100000 in
theorem marks5_any (v : Value) (l : List Int) (w : World) (H : IsInts w v l) (hv : ∀ x ∈ l, 0 ≤ x ∧ x ≤ 65536) :
    Calls Try.prog 45 #[v] w fun e w' => ∃ b, e = .returned (.slice (some ⟨b, 0, none⟩) nM nM) ∧ Mk w' w.heap.size b (fun x => decide (x ∈ l)) ∧ Below w.heap.size w w' := by
  have HH := Lib.hid H
  have HV := Lib.hid hv
  have hnm := nM_eq
  have HNM := Lib.hid hnm
  obtain ⟨a, cap, rfl⟩ := H.shape
  have hll := H.len
  clear H hv hnm
  go_enter Try.func45, Try.ntmps45
  go_wp2_with (refine wpList_mkBools2 rfl _ _ rfl nM 65537 65537 rfl rfl (by rw [HNM.out]; rfl) (by rw [HNM.out]; rfl) (by rw [HNM.out]; decide) ?_; intro w1 hown hg; have HO := Lib.hid hown; have HB1 := Lib.hid ((Below.refl w.heap.size w).grown hg (Nat.le_refl _) (fun k hk => by cases hk)); clear hown hg)
  have HM0 : Hid (Mk w1 w.heap.size w.heap.size (fun x => decide (x ∈ l.take 0))) := ⟨_, HO.out, by rw [List.length_replicate], fun i hi => by simp [List.getD, List.getElem?_replicate, hi]⟩
  clear HO
  go_loopw [4] (fun i wr => ∃ k : Nat, k ≤ l.length ∧ i = .int .i64 k ∧ Mk wr w.heap.size w.heap.size (fun x => decide (x ∈ l.take k)) ∧ Below w.heap.size w wr) (fun i _ => l.length - (intOf i).toNat)
  case atStart => exact ⟨0, Nat.zero_le _, rfl, HM0.out, HB1.out⟩
  case round =>
    obtain ⟨k, hk, rfl, hmk, hbel⟩ := hrel
    have HM := Lib.hid hmk
    have HB := Lib.hid hbel
    clear hmk hbel
    by_cases hlt : k < l.length
    · obtain ⟨b, off, rfl, hb, hc0⟩ := HH.out.cellY hlt
      have hc := (HB.out.cell (p := ⟨b, off + k, none⟩) hb).trans hc0
      have HTK : Hid (l.take (k + 1) = l.take k ++ [l.getD k 0]) := by show _ = _; rw [List.take_succ_eq_append_getElem hlt]; simp [List.getD, hlt]
      have hr := HV.out (l.getD k 0) (by simp [List.getD, hlt])
      have HKL := Lib.hid hlt
      clear hc0 hlt
      generalize l.getD k 0 = x at *
      obtain ⟨n, rfl⟩ := Int.eq_ofNat_of_zero_le hr.1
      have hn : n < nM := by rw [HNM.out]; omega
      have hn0 : (0 : Int) ≤ (n : Int) := by omega
      have hn1 : (n : Int) < (nM : Int) := by omega
      have m0 := HM.out.cell hn
      have m1 := HM.out.frozen n
      have HM2 := Lib.hid (HM.out.set n hn true)
      have HB2 := Lib.hid (HB.out.setCell (p := ⟨w.heap.size, n, none⟩) (u := .bool true) (Nat.le_refl _))
      clear hr
      go_wp2
      go_roundw
      case rel => exact ⟨k + 1, HKL.out, by go_num, HM2.out.congr (fun i hi1 hi2 => by
        rw [HTK.out]
        unfold updB
        by_cases e : i = (n : Int)
        · subst e; simp
        · rw [if_neg e]; simp [e]), HB2.out⟩
      case measure => have := HKL.out; simp [intOf]; omega
    · have HK : Hid (k = l.length) := by show _ = _; omega
      have HM2 : Hid (Mk wr w.heap.size w.heap.size (fun x => decide (x ∈ l))) := by have h := HM.out; rw [HK.out, List.take_length] at h; exact h
      go_wp2
      go_ret
      exact ⟨_, rfl, HM2.out, HB.out⟩
end Go.Proofs.Yticcikelapifaaa

/- The reference's known (layer 5). -/
namespace Go.Proofs.Yticcikelapifaaa
open Go.RowKit Go.Maps Go.Shelf
set_option linter.unusedVariables false
set_option linter.unusedSimpArgs false

/-- A literal of a marked variable. -/
def knownB (f : Int → Bool) (x : Int) : Bool := varB (abs5 x) && f (abs5 x)
set_option maxHeartbeats 800000 in
set_option maxRecDepth 100000 in
theorem known5_any (B b : Nat) (f : Int → Bool) (x : Int) (w : World) (HM : Mk w B b f) (h1 : -9223372036854775808 ≤ x) (h2 : x ≤ 9223372036854775807) :
    Calls Try.prog 46 #[.slice (some ⟨b, 0, none⟩) nM nM, .int .i64 x] w fun e w' => e = .returned (.bool (knownB f x)) ∧ w = w' := by
  have HA := Lib.hid (abs5_any x w h1 h2)
  have HV := Lib.hid (vari5_any (abs5 x) w)
  have HR : Hid (knownB f x = (varB (abs5 x) && f (abs5 x))) := rfl
  generalize knownB f x = rr at *
  generalize abs5 x = y at *
  cases hv : varB y with
  | false =>
    rw [hv] at HV HR
    clear hv
    go_enter Try.func46, Try.ntmps46
    go_wp2_with (first
      | (go_at_call 38; refine HA.out.mono ?_; rintro e w1 ⟨rfl, rfl⟩)
      | (go_at_call 49; refine HV.out.mono ?_; rintro e w1 ⟨rfl, rfl⟩))
    go_ret
    exact ⟨ret_bool (by rw [HR.out]; rfl), rfl⟩
  | true =>
    have hb : 1 ≤ y ∧ y ≤ 65536 := by unfold varB at hv; simpa using hv
    rw [hv] at HV HR
    clear hv
    obtain ⟨n, rfl⟩ := Int.eq_ofNat_of_zero_le (show 0 ≤ y by omega)
    have hn : n < nM := by rw [nM_eq]; omega
    have hn0 : (0 : Int) ≤ (n : Int) := by omega
    have hn1 : (n : Int) < (nM : Int) := by omega
    have m0 := HM.cell hn
    clear hb HM
    generalize f (n : Int) = t at *
    go_enter Try.func46, Try.ntmps46
    go_wp2_with (first
      | (go_at_call 38; refine HA.out.mono ?_; rintro e w1 ⟨rfl, rfl⟩)
      | (go_at_call 49; refine HV.out.mono ?_; rintro e w1 ⟨rfl, rfl⟩))
    go_ret
    exact ⟨ret_bool (by rw [HR.out]; rfl), rfl⟩
end Go.Proofs.Yticcikelapifaaa

/- The reference's reached (layer 5). -/
namespace Go.Proofs.Yticcikelapifaaa
open Go.RowKit Go.Maps Go.Shelf
set_option linter.unusedVariables false
set_option linter.unusedSimpArgs false

def markL (f : Int → Bool) (l : List Int) : Int → Bool := fun i => f i || decide (i ∈ l.map abs5)
/-- Marks of what gates reach, from the last gate to the first. -/
def reachM : List Gt → (Int → Bool) → Int → Bool
  | [], f => f
  | g :: r, f => if reachM r f g.1 = true then markL (reachM r f) g.2.2 else reachM r f
theorem reachM_drop {gs : List Gt} {k : Nat} (h : k < gs.length) (f : Int → Bool) : reachM (gs.drop k) f = if reachM (gs.drop (k + 1)) f (gs.getD k dG).1 = true then markL (reachM (gs.drop (k + 1)) f) (gs.getD k dG).2.2 else reachM (gs.drop (k + 1)) f := by
  rw [gates_drop h]
  rfl
theorem markL_take {f : Int → Bool} {l : List Int} {k : Nat} (h : k < l.length) : ∀ i, updB (markL f (l.take k)) (abs5 (l.getD k 0)) true i = markL f (l.take (k + 1)) i := fun i => by
  have e : l.take (k + 1) = l.take k ++ [l.getD k 0] := by rw [List.take_succ_eq_append_getElem h]; simp [List.getD, h]
  unfold updB markL
  rw [e, List.map_append]
  by_cases hi : i = abs5 (l.getD k 0)
  · rw [if_pos hi]; simp [hi]
  · rw [if_neg hi]
    generalize l.getD k 0 = y at *
    simp [hi]
set_option maxHeartbeats 1600000 in
set_option maxRecDepth 100000 in
theorem reached5_any (vg : Value) (gs : List Gt) (x : Int) (w : World) (HG : IsGates w vg gs) (hl : gs.length < 1000000) (h1 : -9223372036854775808 ≤ x) (h2 : x ≤ 9223372036854775807) (hx : abs5 x ≤ 65536) (hgs : ∀ g ∈ gs, (0 ≤ g.1 ∧ g.1 ≤ 65536) ∧ ∀ y ∈ g.2.2, abs5 y ≤ 65536) :
    Calls Try.prog 47 #[vg, .int .i64 x] w fun e w' => ∃ b, e = .returned (.slice (some ⟨b, 0, none⟩) nM nM) ∧ Mk w' w.heap.size b (reachM gs (fun i => decide (i = abs5 x))) ∧ Below w.heap.size w w' := by
  have h0 : ∀ y, -9223372036854775808 ≤ y → y ≤ 9223372036854775807 → 0 ≤ abs5 y := fun y _ _ => by unfold abs5; split <;> (try split) <;> omega
  have HA : Hid (∀ (y : Int) (X : World), -9223372036854775808 ≤ y → y ≤ 9223372036854775807 → Calls Try.prog 38 #[.int .i64 y] X fun e w' => e = .returned (.int .i64 (abs5 y)) ∧ X = w') := fun y X => abs5_any y X
  have HGW := Lib.hid HG
  have HGS := Lib.hid hgs
  have HX := Lib.hid hx
  have H0 := Lib.hid h0
  have HBD := Lib.hid HG.bd
  obtain ⟨ga, gc, rfl, _⟩ := HG.shape
  have HMK : Hid (Calls Try.prog 45 #[.slice (some ⟨w.heap.size, 0, none⟩) 1 1] (w.alloc (.cells #[.int .i64 (abs5 x)] 3)) fun e w' => ∃ b, e = .returned (.slice (some ⟨b, 0, none⟩) nM nM) ∧ Mk w' w.heap.size b (fun i => decide (i = abs5 x)) ∧ Below w.heap.size w w') := by
    have hp := h0 x h1 h2
    refine (marks5_any _ [abs5 x] _ (ints_heap [abs5 x] (heap_hit rfl) (by intro y hy; rw [List.mem_singleton] at hy; subst hy; omega) (by simp)) (by intro y hy; rw [List.mem_singleton] at hy; subst hy; omega)).mono ?_
    rintro e w' ⟨b, h1, h2, h3⟩
    exact ⟨b, h1, (h2.mono (by simp)).congr (fun i _ _ => by simp), (below_new w _).trans (h3.mono (by simp))⟩
  clear HG hgs hx h0
  go_enter Try.func47, Try.ntmps47
  go_wp2_with (first
    | (go_at_call 38; refine (HA.out x _ h1 h2).mono ?_; rintro e w1 ⟨rfl, rfl⟩)
    | (go_at_call 45; refine HMK.out.mono ?_; rintro e w1 ⟨b, rfl, hmk, hbel⟩; have HM1 := Lib.hid hmk; have HB1 := Lib.hid hbel; clear hmk hbel))
  obtain ⟨f0, hf0⟩ : ∃ f0 : Int → Bool, (fun i => decide (i = abs5 x)) = f0 := ⟨_, rfl⟩
  rw [hf0] at HM1
  have HF0 := Lib.hid hf0
  clear hf0 HMK
  have hgl := hl
  go_loopw [6] (fun i wr => ∃ (z : Int) (k : Nat), k ≤ gs.length ∧ z = (k : Int) - 1 ∧ i = .int .i64 z ∧ Mk wr w.heap.size b (reachM (gs.drop k) f0) ∧ Below w.heap.size w wr) (fun i _ => (intOf i + 1).toNat)
  case atStart => exact ⟨_, gs.length, Nat.le_refl _, rfl, rfl, by rw [List.drop_length]; exact HM1.out, HB1.out⟩
  case round =>
    obtain ⟨z, k, hk, hz, rfl, hmk, hbel⟩ := hrel
    have HM := Lib.hid hmk
    have HB := Lib.hid hbel
    clear hmk hbel
    obtain rfl | ⟨j, rfl⟩ : k = 0 ∨ ∃ j, k = j + 1 := by
      cases k with
      | zero => exact .inl rfl
      | succ j => exact .inr ⟨j, rfl⟩
    · obtain rfl : z = -1 := by omega
      have HMF : Hid (Mk wr w.heap.size b (reachM gs f0)) := HM.out
      clear HM hz hk
      go_wp2
      go_ret
      exact ⟨_, rfl, by rw [HF0.out]; exact HMF.out, HB.out⟩
    · have hzj : z = (j : Int) := by omega
      clear hz
      subst hzj
      have hlt : j < gs.length := hk
      obtain ⟨pb, off, u, rfl, hb, hcx0, _, hcu0, HU0, hrg⟩ := HGW.out.at hlt
      have hcx := (HB.out.cell (p := ⟨pb, off + j * 3, none⟩) hb).trans hcx0
      have HCU : Hid (∀ X, Below w.heap.size w X → X.cell? ⟨pb, off + j * 3 + 2, none⟩ = some u) := fun X hX => (hX.cell (p := ⟨pb, off + j * 3 + 2, none⟩) hb).trans hcu0
      have hgm : gs.getD j dG ∈ gs := by simp [List.getD, hlt]
      have HGJ := Lib.hid (HGS.out _ hgm)
      have HBJ := Lib.hid (HBD.out _ hgm)
      have HRD := Lib.hid (reachM_drop hlt f0)
      have hj0 : (0 : Int) ≤ (j : Int) := by omega
      have hj1 : (j : Int) < (gs.length : Int) := by omega
      have HKL := Lib.hid hlt
      clear hcx0 hcu0 hk hlt hgm
      generalize gs.getD j dG = y at *
      obtain ⟨y1, y2, y3⟩ := y
      simp only at hcx HU0 HGJ HBJ HRD hrg
      have hr := HGJ.out.1
      have HU := Lib.hid HU0
      obtain ⟨ua, uc, rfl⟩ := HU0.shape
      obtain ⟨n, rfl⟩ := Int.eq_ofNat_of_zero_le hr.1
      have hn : n < nM := by rw [nM_eq]; omega
      have hn0 : (0 : Int) ≤ (n : Int) := by omega
      have hn1 : (n : Int) < (nM : Int) := by omega
      have m0 := HM.out.cell hn
      clear HU0 hr hrg
      generalize reachM (gs.drop (j + 1)) f0 = F at *
      cases ht : F (n : Int) with
      | false =>
        rw [ht] at m0
        have HR2 : Hid (reachM (gs.drop j) f0 = F) := by show _ = _; rw [HRD.out, if_neg (by rw [ht]; simp)]
        clear ht HRD
        go_wp2
        go_roundw
        case rel => exact ⟨_, j, by have := HKL.out; omega, rfl, rfl, by rw [HR2.out]; exact HM.out, HB.out⟩
        case measure => simp [intOf] <;> omega
      | true =>
        rw [ht] at m0
        have HR2 : Hid (reachM (gs.drop j) f0 = markL F y3) := by show _ = _; rw [HRD.out, if_pos ht]
        clear ht HRD
        go_wp2
        clear m0 hcx
        go_loopw [7] (fun i2 w2 => ∃ q : Nat, q ≤ y3.length ∧ i2 = .int .i64 q ∧ Mk w2 w.heap.size b (markL F (y3.take q)) ∧ Below w.heap.size w w2) (fun i2 _ => y3.length - (intOf i2).toNat)
        case atStart => exact ⟨0, Nat.zero_le _, rfl, HM.out.congr (fun i _ _ => by unfold markL; simp), HB.out⟩
        case round =>
          obtain ⟨q, hq, rfl, hmk, hbel⟩ := hrel
          have HM3 := Lib.hid hmk
          have HB3 := Lib.hid hbel
          have hcu := HCU.out _ hbel
          clear hmk hbel
          by_cases hlt : q < y3.length
          · obtain ⟨b2, off2, rfl, hb2, hc0⟩ := HU.out.cellY hlt
            have hc := (HB3.out.cell (p := ⟨b2, off2 + q, none⟩) hb2).trans hc0
            have hym : y3.getD q 0 ∈ y3 := by simp [List.getD, hlt]
            have HT := Lib.hid (markL_take (f := F) hlt)
            have HAQ := Lib.hid (HGJ.out.2 _ hym)
            have HBQ := Lib.hid (HBJ.out.2.2.2 _ hym)
            have HQL := Lib.hid hlt
            have hq0 : (0 : Int) ≤ (q : Int) := by omega
            have hq1 : (q : Int) < (y3.length : Int) := by omega
            have hq2 : (q : Int) < 17592186044416 := by have h9 : y3.length ≤ 17592186044416 := HBJ.out.2.2.1; omega
            clear hc0 hym hlt
            generalize y3.getD q 0 = x2 at *
            have HAX := Lib.hid (HA.out x2)
            have hp := H0.out x2 HBQ.out.1 HBQ.out.2
            generalize abs5 x2 = x3 at *
            obtain ⟨n2, rfl⟩ := Int.eq_ofNat_of_zero_le hp
            have hm2 : n2 < nM := by rw [nM_eq]; have := HAQ.out; omega
            have hm0 : (0 : Int) ≤ (n2 : Int) := by omega
            have hm1 : (n2 : Int) < (nM : Int) := by omega
            have m0 := HM3.out.cell hm2
            have m1 := HM3.out.frozen n2
            have HM4 := Lib.hid (HM3.out.set n2 hm2 true)
            have HB4 := Lib.hid (HB3.out.setCell (p := ⟨b, n2, none⟩) (u := .bool true) HM3.out.lt.1)
            clear hp
            go_wp2_with (go_at_call 38; refine (HAX.out _ HBQ.out.1 HBQ.out.2).mono ?_; rintro e w1 ⟨rfl, rfl⟩)
            go_roundw
            case rel => exact ⟨q + 1, HQL.out, by go_num, HM4.out.congr (fun i _ _ => HT.out i), HB4.out⟩
            case measure => have := HQL.out; simp [intOf]; omega
          · have HQ : Hid (q = y3.length) := by show _ = _; omega
            have HM4 : Hid (Mk wr w.heap.size b (reachM (gs.drop j) f0)) := by have h := HM3.out; rw [HQ.out, List.take_length] at h; rw [HR2.out]; exact h
            go_wp2
            go_roundw
            case rel => exact ⟨_, j, by have := HKL.out; omega, rfl, rfl, HM4.out, HB3.out⟩
            case measure => simp [intOf] <;> omega
end Go.Proofs.Yticcikelapifaaa

/- The reference's holds and gate (layer 5). -/
namespace Go.Proofs.Yticcikelapifaaa
open Go.RowKit Go.Maps Go.Shelf
set_option linter.unusedVariables false
set_option linter.unusedSimpArgs false

theorem abs5_var {x : Int} (h : 0 ≤ varC x) : abs5 x = varC x := by
  unfold varC at h ⊢
  unfold abs5
  split
  · split
    · rename_i h1 h2; rw [if_pos h1, if_pos h2] at h; omega
    · rfl
  · rfl
set_option maxHeartbeats 800000 in
set_option maxRecDepth 100000 in
theorem holds5_any (B b : Nat) (f : Int → Bool) (x : Int) (w : World) (HM : Mk w B b f) (h1 : -9223372036854775808 ≤ x) (h2 : x ≤ 9223372036854775807) (hx : 0 ≤ varC x ∧ varC x ≤ 65536) :
    Calls Try.prog 60 #[.slice (some ⟨b, 0, none⟩) nM nM, .int .i64 x] w fun e w' => e = .returned (.bool (litV f x)) ∧ w = w' := by
  have HA := Lib.hid (abs5_any x w h1 h2)
  rw [abs5_var hx.1] at HA
  have HR : Hid (litV f x = (f (varC x) == decide (0 < x))) := rfl
  generalize litV f x = rr at *
  generalize varC x = y at *
  obtain ⟨n, rfl⟩ := Int.eq_ofNat_of_zero_le hx.1
  have hn : n < nM := by rw [nM_eq]; omega
  have hn0 : (0 : Int) ≤ (n : Int) := by omega
  have hn1 : (n : Int) < (nM : Int) := by omega
  have m0 := HM.cell hn
  clear hx HM
  generalize f (n : Int) = t at *
  go_enter Try.func60, Try.ntmps60
  go_wp2_with (go_at_call 38; refine HA.out.mono ?_; rintro e w1 ⟨rfl, rfl⟩)
  go_ret
  exact ⟨ret_bool (by rw [HR.out]), rfl⟩
theorem all_cut {p : Int → Bool} {l : List Int} {k : Nat} (h : k < l.length) : l.take (k + 1) = l.take k ++ [l.getD k 0] := by rw [List.take_succ_eq_append_getElem h]; simp [List.getD, h]
theorem all_no {p : Int → Bool} {l : List Int} {k : Nat} (h : k < l.length) (e : p (l.getD k 0) = false) : l.all p = false := by
  rw [← Bool.not_eq_true, List.all_eq_true]
  exact fun hh => by have := hh (l.getD k 0) (by simp [List.getD, h]); rw [e] at this; cases this
theorem any_yes {p : Int → Bool} {l : List Int} {k : Nat} (h : k < l.length) (e : p (l.getD k 0) = true) : l.any p = true :=
  List.any_eq_true.2 ⟨l.getD k 0, by simp [List.getD, h], e⟩
set_option maxHeartbeats 1600000 in
set_option maxRecDepth 100000 in
theorem gate5_any (B b : Nat) (f : Int → Bool) (x k : Int) (u : Value) (l : List Int) (w : World) (HM : Mk w B b f) (H : IsInts w u l) (hf : fitsB k l.length = true) (hl : ∀ y ∈ l, 0 ≤ varC y ∧ varC y ≤ 65536) :
    Calls Try.prog 84 #[.slice (some ⟨b, 0, none⟩) nM nM, .agg #[.int .i64 x, .int .u8 k, u]] w fun e w' => e = .returned (.bool (gateV f k l)) ∧ Below w.heap.size w w' := by
  have h64 : In64 l := by obtain ⟨_, _, _, _, _, _, g, _⟩ := H; exact g
  have hll : l.length ≤ 17592186044416 := H.len
  obtain ⟨ua, uc, rfl⟩ := H.shape
  obtain ⟨W, hW⟩ : ∃ W, w.alloc (.cells #[.int .i64 x, .int .u8 k, .slice ua l.length uc] 71) = W := ⟨_, rfl⟩
  have hb : Below w.heap.size w W := by rw [← hW]; exact below_new _ _
  have hh : W.heap[w.heap.size]? = some (.cells #[.int .i64 x, .int .u8 k, .slice ua l.length uc] 71 (0, 0)) := by rw [← hW]; exact heap_hit rfl
  have c1 : W.cell? ⟨w.heap.size, 1, none⟩ = some (.int .u8 k) := block_cell hh rfl
  have c2 : W.cell? ⟨w.heap.size, 2, none⟩ = some (.slice ua l.length uc) := block_cell hh rfl
  have HB := Lib.hid hb
  have HU := Lib.hid (H.below hb (Nat.le_refl _))
  have HW := Lib.hid hW
  have HH : Hid (∀ y ∈ l, Calls Try.prog 60 #[.slice (some ⟨b, 0, none⟩) nM nM, .int .i64 y] W fun e w' => e = .returned (.bool (litV f y)) ∧ W = w') := fun y hy => holds5_any B b f y W (HM.below hb (Nat.le_refl _)) (h64 y hy).1 (h64 y hy).2 (hl y hy)
  have HV : Hid (∀ (j : Nat) (X : World), j < l.length → Below W.heap.size W X → Calls Try.prog 60 #[.slice (some ⟨b, 0, none⟩) nM nM, .int .i64 (l.getD j 0)] X fun e w' => e = .returned (.bool (litV f (l.getD j 0))) ∧ X = w') := fun j X hj hX => holds5_any B b f _ _ ((HM.below hb (Nat.le_refl _)).below hX (Nat.le_refl _)) (h64 _ (by simp [List.getD, hj])).1 (h64 _ (by simp [List.getD, hj])).2 (hl _ (by simp [List.getD, hj]))
  have HN : Hid (∀ (j n : Nat), j < l.length → Calls Try.prog 60 #[.slice (some ⟨b, 0, none⟩) nM nM, .int .i64 (l.getD j 0)] (W.drewN n) fun e w' => e = .returned (.bool (litV f (l.getD j 0))) ∧ W.drewN n = w') := fun j n hj => holds5_any B b f _ _ ((HM.below hb (Nat.le_refl _)).below (Quiet.below ⟨n, rfl⟩ W.heap.size) (Nat.le_refl _)) (h64 _ (by simp [List.getD, hj])).1 (h64 _ (by simp [List.getD, hj])).2 (hl _ (by simp [List.getD, hj]))
  have HG : Hid (∀ j, j < l.length → Calls Try.prog 60 #[.slice (some ⟨b, 0, none⟩) nM nM, .int .i64 (l.getD j 0)] W fun e w' => e = .returned (.bool (litV f (l.getD j 0))) ∧ W = w') := fun j hj => HH.out _ (by simp [List.getD, hj])
  have HR : Hid (gateV f k l = if k = 1 then l.all (litV f) else if k = 2 then l.any (litV f) else if k = 3 then (litV f (l.getD 0 0) != litV f (l.getD 1 0)) else if litV f (l.getD 0 0) = true then litV f (l.getD 1 0) else litV f (l.getD 2 0)) := by show _ = _; unfold gateV; rfl
  have hk := fits_kind hf
  generalize gateV f k l = rr at *
  clear H HM hf hl hW hb hh HH h64
  rcases hk with rfl | rfl | ⟨rfl, hn⟩ | ⟨rfl, hn⟩
  · have HR1 : Hid (rr = l.all (litV f)) := HR.out
    clear HR
    go_enter Try.func84, Try.ntmps84
    go_upto_region 1 with fail
    rw [HW.out]
    go_wp2
    go_loopw [5] (fun i wr => ∃ q : Nat, q ≤ l.length ∧ i = .int .i64 q ∧ W = wr ∧ (l.take q).all (litV f) = true) (fun i _ => l.length - (intOf i).toNat)
    case atStart => exact ⟨0, Nat.zero_le _, rfl, rfl, rfl⟩
    case round =>
      obtain ⟨q, hq, rfl, rfl, hal⟩ := hrel
      have HAL := Lib.hid hal
      clear hal
      by_cases hlt : q < l.length
      · obtain ⟨b2, off2, rfl, hb2, hc⟩ := HU.out.cellY hlt
        have HC := Lib.hid (HG.out q hlt)
        have HT := Lib.hid (all_cut (p := litV f) hlt)
        have HNO := Lib.hid (fun e => all_no (p := litV f) hlt e)
        have HQL := Lib.hid hlt
        have hq0 : (0 : Int) ≤ (q : Int) := by omega
        have hq1 : (q : Int) < (l.length : Int) := by omega
        have hq2 : (q : Int) < 17592186044416 := by omega
        clear hlt
        generalize l.getD q 0 = y at *
        cases ht : litV f y with
        | true =>
          rw [ht] at HC
          have HT2 : Hid ((l.take (q + 1)).all (litV f) = true) := by show _ = _; rw [HT.out, List.all_append, HAL.out]; simp [ht]
          clear ht
          go_wp2_with (go_at_call 60; refine HC.out.mono ?_; rintro e w1 ⟨rfl, rfl⟩)
          go_roundw
          case rel => exact ⟨q + 1, HQL.out, by go_num, by first | rfl | trivial, HT2.out⟩
          case measure => have := HQL.out; simp [intOf]; omega
        | false =>
          rw [ht] at HC
          have HF := Lib.hid (HNO.out ht)
          clear ht
          go_wp2_with (go_at_call 60; refine HC.out.mono ?_; rintro e w1 ⟨rfl, rfl⟩)
          go_ret
          exact ⟨ret_bool (by rw [HR1.out, HF.out]), HB.out⟩
      · have HE : Hid (l.all (litV f) = true) := by have h := HAL.out; rw [List.take_of_length_le (by omega)] at h; exact h
        go_wp2
        go_ret
        exact ⟨ret_bool (by rw [HR1.out, HE.out]), HB.out⟩
  · have HR1 : Hid (rr = l.any (litV f)) := HR.out
    clear HR
    go_enter Try.func84, Try.ntmps84
    go_upto_region 1 with fail
    rw [HW.out]
    go_wp2
    go_loopw [6] (fun i wr => ∃ q : Nat, q ≤ l.length ∧ i = .int .i64 q ∧ W = wr ∧ (l.take q).any (litV f) = false) (fun i _ => l.length - (intOf i).toNat)
    case atStart => exact ⟨0, Nat.zero_le _, rfl, rfl, rfl⟩
    case round =>
      obtain ⟨q, hq, rfl, rfl, hal⟩ := hrel
      have HAL := Lib.hid hal
      clear hal
      by_cases hlt : q < l.length
      · obtain ⟨b2, off2, rfl, hb2, hc⟩ := HU.out.cellY hlt
        have HC := Lib.hid (HG.out q hlt)
        have HT := Lib.hid (all_cut (p := litV f) hlt)
        have HNO := Lib.hid (fun e => any_yes (p := litV f) hlt e)
        have HQL := Lib.hid hlt
        have hq0 : (0 : Int) ≤ (q : Int) := by omega
        have hq1 : (q : Int) < (l.length : Int) := by omega
        have hq2 : (q : Int) < 17592186044416 := by omega
        clear hlt
        generalize l.getD q 0 = y at *
        cases ht : litV f y with
        | false =>
          rw [ht] at HC
          have HT2 : Hid ((l.take (q + 1)).any (litV f) = false) := by show _ = _; rw [HT.out, List.any_append, HAL.out]; simp [ht]
          clear ht
          go_wp2_with (go_at_call 60; refine HC.out.mono ?_; rintro e w1 ⟨rfl, rfl⟩)
          go_roundw
          case rel => exact ⟨q + 1, HQL.out, by go_num, by first | rfl | trivial, HT2.out⟩
          case measure => have := HQL.out; simp [intOf]; omega
        | true =>
          rw [ht] at HC
          have HF := Lib.hid (HNO.out ht)
          clear ht
          go_wp2_with (go_at_call 60; refine HC.out.mono ?_; rintro e w1 ⟨rfl, rfl⟩)
          go_ret
          exact ⟨ret_bool (by rw [HR1.out, HF.out]), HB.out⟩
      · have HE : Hid (l.any (litV f) = false) := by have h := HAL.out; rw [List.take_of_length_le (by omega)] at h; exact h
        go_wp2
        go_ret
        exact ⟨ret_bool (by rw [HR1.out, HE.out]), HB.out⟩
  · have HR1 : Hid (rr = (litV f (l.getD 0 0) != litV f (l.getD 1 0))) := HR.out
    clear HR
    obtain ⟨b2, off2, rfl, hb2, hc0⟩ := HU.out.cellY (k := 0) (by omega)
    obtain ⟨b2', off2', he, _, hc1⟩ := HU.out.cellY (k := 1) (by omega)
    obtain ⟨rfl, rfl⟩ : b2' = b2 ∧ off2' = off2 := by injection he with he; injection he with h1 h2; exact ⟨h1.symm, h2.symm⟩
    have hc0 : W.cell? ⟨b2', off2', none⟩ = some (.int .i64 (l.getD 0 0)) := hc0
    have HC0 : Hid (∀ X, Below W.heap.size W X → Calls Try.prog 60 #[.slice (some ⟨b, 0, none⟩) nM nM, .int .i64 (l.getD 0 0)] X fun e w' => e = .returned (.bool (litV f (l.getD 0 0))) ∧ X = w') := fun X hX => HV.out 0 X (by omega) hX
    have HC1 : Hid (∀ X, Below W.heap.size W X → Calls Try.prog 60 #[.slice (some ⟨b, 0, none⟩) nM nM, .int .i64 (l.getD 1 0)] X fun e w' => e = .returned (.bool (litV f (l.getD 1 0))) ∧ X = w') := fun X hX => HV.out 1 X (by omega) hX
    have hi0 : (0 : Int) < (l.length : Int) := by omega
    have hi1 : (1 : Int) < (l.length : Int) := by omega
    have hne : ¬ l = [] := by intro e; rw [e] at hn; simp at hn
    have hws : w.heap.size < W.heap.size := by rw [← HW.out]; simp
    have HXC : Hid (∀ X, Below W.heap.size W X → X.cell? ⟨w.heap.size, 2, none⟩ = some (.slice (some ⟨b2', off2', none⟩) l.length uc) ∧ X.cell? ⟨b2', off2', none⟩ = some (.int .i64 (l.getD 0 0)) ∧ X.cell? ⟨b2', off2' + 1, none⟩ = some (.int .i64 (l.getD 1 0))) := fun X hX => ⟨(hX.cell (p := ⟨w.heap.size, 2, none⟩) hws).trans c2, (hX.cell (p := ⟨b2', off2', none⟩) hb2).trans hc0, (hX.cell (p := ⟨b2', off2' + 1, none⟩) hb2).trans hc1⟩
    clear he hn HN HG HV
    generalize l.getD 0 0 = y0 at *
    generalize l.getD 1 0 = y1 at *
    generalize litV f y0 = t0 at *
    generalize litV f y1 = t1 at *
    go_enter Try.func84, Try.ntmps84
    go_upto_region 1 with fail
    rw [HW.out]
    go_wp2_with fail
    have hWd : Below W.heap.size W W.drew := (Below.refl _ _).drew
    have HWD := Lib.hid hWd
    refine wp_region_held_drew (S := fun X => Below W.heap.size W X) (by kernel_rfl) hWd (fun hSd => ?_)
    clear hWd
    generalize W.drew = wd at *
    refine takeC (i := 0) (v := .slice (some ⟨b, 0, none⟩) nM nM) (some 44) rfl rfl (by kernel_rfl) (by kernel_rfl) (by kernel_rfl) (fun _ _ _ h => h) (Or.inl ⟨by rfl, ?_⟩) (by assumption) ?_
    · intro wz hSw; go_simp
    try simp only [Act.put, List.setIfInBounds_toArray, List.set_cons_zero, List.set_cons_succ]
    refine takeC (i := 1) (v := .pointer (some ⟨w.heap.size, 2, none⟩)) (some 45) rfl rfl (by kernel_rfl) (by kernel_rfl) (by kernel_rfl) (fun _ _ _ h => h) (Or.inl ⟨by rfl, ?_⟩) (by assumption) ?_
    · intro wz hSw; go_simp
    try simp only [Act.put, List.setIfInBounds_toArray, List.set_cons_zero, List.set_cons_succ]
    refine takeC (i := 2) (v := .slice (some ⟨b2', off2', none⟩) l.length uc) (some 46) rfl rfl (by kernel_rfl) (by kernel_rfl) (by kernel_rfl) (fun _ _ _ h => h) (Or.inl ⟨by rfl, ?_⟩) (by assumption) ?_
    · intro wz hSw; obtain ⟨t0x, t1x, t2x⟩ := HXC.out wz hSw; go_simp
    try simp only [Act.put, List.setIfInBounds_toArray, List.set_cons_zero, List.set_cons_succ]
    refine takeC (i := 3) (v := .pointer (some ⟨b2', off2', none⟩)) (some 47) rfl rfl (by kernel_rfl) (by kernel_rfl) (by kernel_rfl) (fun _ _ _ h => h) (Or.inl ⟨by rfl, ?_⟩) (by assumption) ?_
    · intro wz hSw; go_simp
    try simp only [Act.put, List.setIfInBounds_toArray, List.set_cons_zero, List.set_cons_succ]
    refine takeC (i := 4) (v := .int .i64 y0) (some 48) rfl rfl (by kernel_rfl) (by kernel_rfl) (by kernel_rfl) (fun _ _ _ h => h) (Or.inl ⟨by rfl, ?_⟩) (by assumption) ?_
    · intro wz hSw; obtain ⟨t0x, t1x, t2x⟩ := HXC.out wz hSw; go_simp
    try simp only [Act.put, List.setIfInBounds_toArray, List.set_cons_zero, List.set_cons_succ]
    refine takeC (i := 6) (v := .slice (some ⟨b, 0, none⟩) nM nM) (some 50) rfl rfl (by kernel_rfl) (by kernel_rfl) (by kernel_rfl) (fun _ _ _ h => h) (Or.inl ⟨by rfl, ?_⟩) (by assumption) ?_
    · intro wz hSw; go_simp
    try simp only [Act.put, List.setIfInBounds_toArray, List.set_cons_zero, List.set_cons_succ]
    refine takeC (i := 7) (v := .pointer (some ⟨w.heap.size, 2, none⟩)) (some 51) rfl rfl (by kernel_rfl) (by kernel_rfl) (by kernel_rfl) (fun _ _ _ h => h) (Or.inl ⟨by rfl, ?_⟩) (by assumption) ?_
    · intro wz hSw; go_simp
    try simp only [Act.put, List.setIfInBounds_toArray, List.set_cons_zero, List.set_cons_succ]
    refine takeC (i := 8) (v := .slice (some ⟨b2', off2', none⟩) l.length uc) (some 52) rfl rfl (by kernel_rfl) (by kernel_rfl) (by kernel_rfl) (fun _ _ _ h => h) (Or.inl ⟨by rfl, ?_⟩) (by assumption) ?_
    · intro wz hSw; obtain ⟨t0x, t1x, t2x⟩ := HXC.out wz hSw; go_simp
    try simp only [Act.put, List.setIfInBounds_toArray, List.set_cons_zero, List.set_cons_succ]
    refine takeC (i := 9) (v := .pointer (some ⟨b2', off2' + 1, none⟩)) (some 53) rfl rfl (by kernel_rfl) (by kernel_rfl) (by kernel_rfl) (fun _ _ _ h => h) (Or.inl ⟨by rfl, ?_⟩) (by assumption) ?_
    · intro wz hSw; go_simp
    try simp only [Act.put, List.setIfInBounds_toArray, List.set_cons_zero, List.set_cons_succ]
    refine takeC (i := 10) (v := .int .i64 y1) (some 54) rfl rfl (by kernel_rfl) (by kernel_rfl) (by kernel_rfl) (fun _ _ _ h => h) (Or.inl ⟨by rfl, ?_⟩) (by assumption) ?_
    · intro wz hSw; obtain ⟨t0x, t1x, t2x⟩ := HXC.out wz hSw; go_simp
    try simp only [Act.put, List.setIfInBounds_toArray, List.set_cons_zero, List.set_cons_succ]
    refine wpAnyH_ready (rs := [5]) (by kernel_rfl) (by simp) ?_
    refine AllReadyH.cons rfl (fun K hK => ?_) AllReadyH.nil
    go_simp
    go_wp2_with (go_at_call 60; refine (HC0.out wd HWD.out).mono ?_; rintro e w7 ⟨rfl, rfl⟩)
    refine hK.out _ _ HWD.out (fun hH7 => ?_)
    clear hK K
    try simp only [Act.put, List.setIfInBounds_toArray, List.set_cons_zero, List.set_cons_succ]
    refine wpAnyH_ready (rs := [11]) (by kernel_rfl) (by simp) ?_
    refine AllReadyH.cons rfl (fun K hK => ?_) AllReadyH.nil
    go_simp
    go_wp2_with (go_at_call 60; refine (HC1.out wd HWD.out).mono ?_; rintro e w7 ⟨rfl, rfl⟩)
    refine hK.out _ _ HWD.out (fun hH8 => ?_)
    clear hK K
    try simp only [Act.put, List.setIfInBounds_toArray, List.set_cons_zero, List.set_cons_succ]
    refine takeC (i := 12) (v := .bool (t0 != t1)) (some 56) rfl rfl (by kernel_rfl) (by kernel_rfl) (by kernel_rfl) (fun _ _ _ h => h) (Or.inl ⟨by rfl, ?_⟩) (by assumption) ?_
    · intro wz hSw; go_simp; cases t0 <;> cases t1 <;> rfl
    try simp only [Act.put, List.setIfInBounds_toArray, List.set_cons_zero, List.set_cons_succ]
    refine takeC (i := 13) (v := .bool (t0 != t1)) (some 4) rfl rfl (by kernel_rfl) (by kernel_rfl) (by kernel_rfl) (fun _ _ _ h => h) (Or.inl ⟨by rfl, ?_⟩) (by assumption) ?_
    · intro wz hSw; go_simp
    try simp only [Act.put, List.setIfInBounds_toArray, List.set_cons_zero, List.set_cons_succ]
    refine wpAnyH_done (by kernel_rfl) ?_ _
    go_wp2
    go_ret
    exact ⟨ret_bool (by rw [HR1.out]), HB.out.trans (HWD.out.mono HB.out.size)⟩
  · have HR1 : Hid (rr = if litV f (l.getD 0 0) = true then litV f (l.getD 1 0) else litV f (l.getD 2 0)) := HR.out
    clear HR
    obtain ⟨b2, off2, rfl, hb2, hc0⟩ := HU.out.cellY (k := 0) (by omega)
    obtain ⟨b2', off2', he, _, hc1⟩ := HU.out.cellY (k := 1) (by omega)
    obtain ⟨rfl, rfl⟩ : b2' = b2 ∧ off2' = off2 := by injection he with he; injection he with h1 h2; exact ⟨h1.symm, h2.symm⟩
    obtain ⟨b3, off3, he2, _, hc2⟩ := HU.out.cellY (k := 2) (by omega)
    obtain ⟨rfl, rfl⟩ : b3 = b2' ∧ off3 = off2' := by injection he2 with he; injection he with h1 h2; exact ⟨h1.symm, h2.symm⟩
    have hc0 : W.cell? ⟨b3, off3, none⟩ = some (.int .i64 (l.getD 0 0)) := hc0
    have HC0 := Lib.hid (HG.out 0 (by omega))
    have HC1 := Lib.hid (HG.out 1 (by omega))
    have HC2 := Lib.hid (HG.out 2 (by omega))
    have hi0 : (0 : Int) < (l.length : Int) := by omega
    have hi1 : (1 : Int) < (l.length : Int) := by omega
    have hi2 : (2 : Int) < (l.length : Int) := by omega
    clear he he2 hn HN HG
    generalize l.getD 0 0 = y0 at *
    generalize l.getD 1 0 = y1 at *
    generalize l.getD 2 0 = y2 at *
    generalize litV f y0 = t0 at *
    generalize litV f y1 = t1 at *
    generalize litV f y2 = t2 at *
    go_enter Try.func84, Try.ntmps84
    go_upto_region 1 with fail
    rw [HW.out]
    cases t0 with
    | true =>
      go_wp2_with (go_at_call 60; first | (refine HC0.out.mono ?_; rintro e w1 ⟨rfl, rfl⟩; clear HC0) | (refine HC1.out.mono ?_; rintro e w1 ⟨rfl, rfl⟩))
      go_ret
      exact ⟨ret_bool (by rw [HR1.out]; rfl), HB.out⟩
    | false =>
      go_wp2_with (go_at_call 60; first | (refine HC0.out.mono ?_; rintro e w1 ⟨rfl, rfl⟩; clear HC0) | (refine HC2.out.mono ?_; rintro e w1 ⟨rfl, rfl⟩))
      go_ret
      exact ⟨ret_bool (by rw [HR1.out]; rfl), HB.out⟩
end Go.Proofs.Yticcikelapifaaa

/- The law's great (layer 5). -/
namespace Go.Proofs.Yticcikelapifaaa
open Go.RowKit Go.Maps Go.Shelf
set_option linter.unusedVariables false
set_option linter.unusedSimpArgs false

/-- A net as it lies in memory: its two lists' values, its literal, its gates. -/
abbrev Nv := Value × Value × Int × List Gt
def dNv : Nv := (undef, undef, 0, [])
set_option maxHeartbeats 1600000 in
set_option maxRecDepth 100000 in
theorem great5_any (ns : List Nv) (b : Nat) (w : World) (hbl : b < w.heap.size) (hn : ns.length ≤ 100)
    (hc : ∀ j, j < ns.length → w.cell? ⟨b, j * 3, none⟩ = some (ns.getD j dNv).1 ∧ w.cell? ⟨b, j * 3 + 1, none⟩ = some (ns.getD j dNv).2.1 ∧ w.cell? ⟨b, j * 3 + 2, none⟩ = some (.int .i64 (ns.getD j dNv).2.2.1) ∧ (∃ a n c, (ns.getD j dNv).1 = .slice a n c) ∧ IsGates w (ns.getD j dNv).2.1 (ns.getD j dNv).2.2.2 ∧ sizeG (ns.getD j dNv).2.2.2 ≤ 4000000 ∧ (ns.getD j dNv).2.2.2.length < 1000000) :
    Calls Try.prog 11 #[.slice (some ⟨b, 0, none⟩) ns.length ns.length] w fun e w' => e = .returned (.bool (ns.any (fun x => manyG x.2.2.2))) ∧ Below w.heap.size w w' := by
  have HC := Lib.hid hc
  clear hc
  go_enter Try.func11, Try.ntmps11
  go_wp2
  go_loopw [7] (fun i wr => ∃ k : Nat, k ≤ ns.length ∧ i = .int .i64 k ∧ Below w.heap.size w wr ∧ Hid ((ns.take k).any (fun x => manyG x.2.2.2) = false)) (fun i _ => ns.length - (intOf i).toNat)
  case atStart => exact ⟨0, Nat.zero_le _, rfl, Below.refl _ _, rfl⟩
  case round =>
    obtain ⟨k, hk, rfl, hbel, HAN⟩ := hrel
    have HB := Lib.hid hbel
    have hszr := hbel.size
    by_cases hlt : k < ns.length
    · obtain ⟨hx0, hy0, hz0, ⟨pa, pn, pc, hpe⟩, hG, hS, hL⟩ := HC.out k hlt
      have hcx := (hbel.cell (p := ⟨b, k * 3, none⟩) hbl).trans hx0
      have hcy := (hbel.cell (p := ⟨b, k * 3 + 1, none⟩) hbl).trans hy0
      have hcz := (hbel.cell (p := ⟨b, k * 3 + 2, none⟩) hbl).trans hz0
      have HTK : Hid (ns.take (k + 1) = ns.take k ++ [ns.getD k dNv]) := by show _ = _; rw [List.take_succ_eq_append_getElem hlt]; simp [List.getD, hlt]
      have HMEM : Hid (ns.getD k dNv ∈ ns) := by show _ ∈ _; simp [List.getD, hlt]
      have hk0 : (0 : Int) ≤ (k : Int) := by omega
      have hk1 : (k : Int) < (ns.length : Int) := by omega
      have hk2 : (k : Int) < 4000001 := by omega
      have HKL := Lib.hid hlt
      clear hx0 hy0 hz0 hlt
      generalize ns.getD k dNv = y at *
      obtain ⟨y1, y2, y3, y4⟩ := y
      simp only at hcx hcy hcz hpe hG hS hL
      subst hpe
      obtain ⟨ga, gc, rfl, _⟩ := hG.shape
      have hba := (Below.refl wr.heap.size wr).alloc (Nat.le_refl _) (.cells #[.slice pa pn pc, .slice ga y4.length gc, .int .i64 y3] 25)
      have HBA := Lib.hid (hbel.trans (hba.mono hszr))
      have HMA := Lib.hid (many5_any (.slice ga y4.length gc) y4 (wr.alloc (.cells #[.slice pa pn pc, .slice ga y4.length gc, .int .i64 y3] 25)) (hG.below HBA.out (Nat.le_refl _)) hS hL)
      clear hbel hba hG hS hL
      cases hm : manyG y4 with
      | true =>
        rw [hm] at HMA
        have HR : Hid (ns.any (fun x => manyG x.2.2.2) = true) := List.any_eq_true.2 ⟨_, HMEM.out, hm⟩
        clear hm
        go_wp2_with (go_at_call 25; refine HMA.out.mono ?_; rintro e w1 ⟨rfl, hb1⟩)
        go_ret
        exact ⟨ret_bool HR.out.symm, HBA.out.trans (hb1.mono HBA.out.size)⟩
      | false =>
        rw [hm] at HMA
        have HR : Hid ((ns.take (k + 1)).any (fun x => manyG x.2.2.2) = false) := by show _ = _; rw [HTK.out, List.any_append, HAN.out]; simp [hm]
        clear hm
        go_wp2_with (go_at_call 25; refine HMA.out.mono ?_; rintro e w1 ⟨rfl, hb1⟩; have HB1 := Lib.hid (HBA.out.trans (hb1.mono HBA.out.size)); clear hb1)
        go_roundw
        case rel => exact ⟨k + 1, HKL.out, by go_num, HB1.out, HR.out⟩
        case measure => have := HKL.out; simp [intOf]; omega
    · have HR : Hid (ns.any (fun x => manyG x.2.2.2) = false) := by have h := HAN.out; rw [List.take_of_length_le (by omega)] at h; exact h
      clear hbel
      go_wp2
      go_ret
      exact ⟨ret_bool HR.out.symm, HB.out⟩
end Go.Proofs.Yticcikelapifaaa

/- The law's bools (layer 5). -/
namespace Go.Proofs.Yticcikelapifaaa
open Go.RowKit Go.Maps Go.Shelf
set_option linter.unusedVariables false
set_option linter.unusedSimpArgs false

/-- A list of bools in memory. -/
def IsBs (w : World) (v : Value) (l : List Bool) : Prop := ∃ a c, v = .slice a l.length c ∧ l.length ≤ 17592186044416 ∧ ∀ k, k < l.length → ∃ g, a = some ⟨g, 0, none⟩ ∧ w.cell? ⟨g, k, none⟩ = some (.bool (l.getD k false))
theorem OwnB.bs {w : World} {B : Nat} {v : Value} {l : List Bool} (h : OwnB w B v l) (hl : l.length ≤ 17592186044416) : IsBs w v l := by
  rcases h.2 with ⟨rfl, h2⟩ | ⟨g, cap, cur, rfl, rest⟩
  · have e : l = [] := List.eq_nil_of_length_eq_zero h2
    subst e
    exact ⟨none, 0, rfl, hl, fun k hk => absurd hk (by simp)⟩
  · exact ⟨_, cap, rfl, hl, fun k hk => ⟨g, rfl, h.cell k hk⟩⟩
theorem IsBs.below {w w' : World} {B : Nat} {v : Value} {l : List Bool} (h : IsBs w v l) (hlt : ∀ g, v.ownBlock = some g → g < w.heap.size) (hb : Below w.heap.size w w') : IsBs w' v l := by
  obtain ⟨a, c, rfl, hl, hc⟩ := h
  refine ⟨a, c, rfl, hl, fun k hk => ?_⟩
  obtain ⟨g, rfl, hg⟩ := hc k hk
  exact ⟨g, rfl, (hb.cell (p := ⟨g, k, none⟩) (hlt g rfl)).trans hg⟩

set_option maxHeartbeats 400000 in
theorem bools5_any (v u : Value) (l m : List Bool) (w : World) (H : IsBs w v l) (K : IsBs w u m) :
    Calls Try.prog 24 #[v, u] w fun e w' => e = .returned (.bool (sameB l m)) ∧ Quiet w w' := by
  obtain ⟨a, cap, rfl, hl, hc⟩ := H
  obtain ⟨a2, cap2, rfl, hl2, hc2⟩ := K
  by_cases hlen : l.length = m.length
  · have hne : ((l.length : Int) != (m.length : Int)) = false := by simp [hlen]
    have HL := Lib.hid hlen
    clear hlen
    go_enter Try.func24, Try.ntmps24
    go_wp2
    go_loopw [13] (fun i wr => ∃ k : Nat, k ≤ l.length ∧ i = .int .i64 k ∧ Quiet w wr ∧ l.take k = m.take k) (fun i _ => l.length - (intOf i).toNat)
    case atStart => exact ⟨0, Nat.zero_le _, rfl, Quiet.refl _, by simp⟩
    case round =>
      obtain ⟨k, hk, rfl, hq, hn⟩ := hrel
      have HN := Lib.hid hn
      clear hn
      by_cases hlt : k < l.length
      · have hlt2 : k < m.length := by rw [← HL.out]; exact hlt
        obtain ⟨g1, rfl, hy0⟩ := hc k hlt
        obtain ⟨g2, rfl, hz0⟩ := hc2 k hlt2
        have hy := (hq.cell _).trans hy0
        have hz := (hq.cell _).trans hz0
        have hk0 : (0 : Int) ≤ (k : Int) := by omega
        have hk1 : (k : Int) < (l.length : Int) := by omega
        have hk2 : (k : Int) < (m.length : Int) := by omega
        have htk : l.take (k + 1) = l.take k ++ [l.getD k false] := by rw [List.take_succ_eq_append_getElem hlt]; simp [List.getD, hlt]
        have htk2 : m.take (k + 1) = m.take k ++ [m.getD k false] := by rw [List.take_succ_eq_append_getElem hlt2]; simp [List.getD, hlt2]
        have hneq : l.getD k false ≠ m.getD k false → l ≠ m := fun h e => h (by rw [e])
        have HT := Lib.hid htk
        have HT2 := Lib.hid htk2
        generalize l.getD k false = y at *
        generalize m.getD k false = z at *
        clear htk htk2 hc hc2 hy0 hz0
        by_cases he : y = z
        · subst he
          have he : (y != y) = false := by simp
          go_wp2_with fail
          go_quiet (fail)
          go_wp2
          go_roundw
          case rel => exact ⟨k + 1, by omega, by go_num, hq.drewN _, by rw [HT.out, HT2.out, HN.out]⟩
          case measure => simp [intOf]; omega
        · have hlm := hneq he
          have h2 : (y = true ∧ z = false) ∨ (y = false ∧ z = true) := by cases y <;> cases z <;> simp at he ⊢
          clear hneq he
          rcases h2 with ⟨rfl, rfl⟩ | ⟨rfl, rfl⟩
          · go_wp2_with fail
            go_quiet (fail)
            go_wp2
            go_ret
            exact ⟨ret_bool (by unfold sameB; simp [hlm]), hq.drewN _⟩
          · go_wp2_with fail
            go_quiet (fail)
            go_wp2
            go_ret
            exact ⟨ret_bool (by unfold sameB; simp [hlm]), hq.drewN _⟩
      · have HE : Hid (l = m) := by
          have h := HN.out
          rw [List.take_of_length_le (by omega), List.take_of_length_le (by rw [← HL.out]; omega)] at h
          exact h
        go_wp2
        go_ret
        exact ⟨ret_bool (by unfold sameB; simp [HE.out]), hq⟩
  · have hne : ((l.length : Int) != (m.length : Int)) = true := by simp; omega
    go_enter Try.func24, Try.ntmps24
    go_wp2
    go_ret
    exact ⟨ret_bool (by unfold sameB; simp; intro h; exact hlen (by rw [h])), Quiet.refl _⟩

end Go.Proofs.Yticcikelapifaaa
