/- The reference of stage 5: Abs, variable, In, Vars, shape, marks, known, Normal, Prefix, May (texts of stage 5, joined). -/
import Derived.Test.YtfghjfljomcldaaGreatCxRInts
import Derived.Test.YtfghjfljomcldaaGreatCxMk0
import Derived.Test.YtfghjfljomcldaaGreatK04
import Derived.Test.YtfghjfljomcldaaGreatK09
import Derived.Test.YtfghjfljomcldaaGreatCxRowG
namespace Go.Proofs.YtfghjfljomcldaaGreat
open Go.RowKit
theorem below_newR (X : World) (o : Obj) : Below X.heap.size X (X.alloc o) := (Below.refl _ _).alloc (Nat.le_refl _) o
theorem block_cellR {W : World} {b i : Nat} {xs : Array Value} {T : TypeId} {v : Value} (hh : W.heap[b]? = some (.cells xs T (0, 0))) (hv : xs[i]? = some v) : W.cell? ⟨b, i, none⟩ = some v := by simp [World.cell?, hh, hv]
theorem heap_hitR {w : World} {o : Obj} {k : Nat} (h : k = w.heap.size) : (w.alloc o).heap[k]? = some o := by subst h; exact World.alloc_heap_new _ _
def sizeR (gs : List Gt) : Nat := (gs.map (fun g => g.2.2.length)).sum
end Go.Proofs.YtfghjfljomcldaaGreat
namespace Go.Proofs.YtfghjfljomcldaaGreat
open Go.RowKit Go.Maps
set_option linter.unusedVariables false
set_option linter.unusedSimpArgs false

/-- The variable of a number: its size; 0 for the least integer. -/
def abs5 (x : Int) : Int := if x < 0 then (if x = -9223372036854775808 then 0 else -x) else x
set_option maxRecDepth 100000 in
theorem abs5_any (x : Int) (w : World) (h1 : -9223372036854775808 ≤ x) (h2 : x ≤ 9223372036854775807) :
    Calls Tryz.prog 121 #[.int .i64 x] w fun e w' => e = .returned (.int .i64 (abs5 x)) ∧ w = w' := by
  by_cases hx : x < 0
  · by_cases hm : x = -9223372036854775808
    · subst hm
      have hw0 : wrap64 9223372036854775808 = -9223372036854775808 := by unfold wrap64; rfl
      have hmx : max (0 : Int) (-9223372036854775808) = 0 := by decide
      go_enter Tryz.func121, Tryz.ntmps121
      go_wp2
      go_ret
      exact ⟨ret_int (by simp [abs5]), rfl⟩
    · have he : abs5 x = -x := by unfold abs5; rw [if_pos hx, if_neg hm]
      have HE := Lib.hid he
      have hwr : wrap64 (-x) = -x := by unfold wrap64; omega
      have hmx : max 0 (-x) = -x := by omega
      clear he hm
      go_enter Tryz.func121, Tryz.ntmps121
      go_wp2
      go_ret
      exact ⟨ret_int (by rw [HE.out]), rfl⟩
  · have he : abs5 x = x := by unfold abs5; rw [if_neg hx]
    have HE := Lib.hid he
    clear he
    go_enter Tryz.func121, Tryz.ntmps121
    go_wp2
    go_ret
    exact ⟨ret_int (by rw [HE.out]), rfl⟩
def varB (x : Int) : Bool := decide (1 ≤ x) && decide (x ≤ 65536)
theorem vari5_any (x : Int) (w : World) : Calls Tryz.prog 120 #[.int .i64 x] w fun e w' => e = .returned (.bool (varB x)) ∧ w = w' := by
  by_cases hx : 1 ≤ x
  · have hd : decide (1 ≤ x) = true := by simpa using hx
    have HR : Hid (varB x = decide (x ≤ 65536)) := by show _ = _; unfold varB; rw [hd]; rfl
    go_enter Tryz.func120, Tryz.ntmps120
    go_wp2
    go_ret
    exact ⟨ret_bool HR.out.symm, rfl⟩
  · have hd : decide (1 ≤ x) = false := by simpa using hx
    have HR : Hid (varB x = false) := by show _ = _; unfold varB; rw [hd]; rfl
    go_enter Tryz.func120, Tryz.ntmps120
    go_wp2
    go_ret
    exact ⟨ret_bool HR.out.symm, rfl⟩
set_option maxHeartbeats 400000 in
theorem in5_any (v : Value) (l : List Int) (x : Int) (w : World) (H : IsInts w v l) (hx1 : -9223372036854775808 ≤ x) (hx2 : x ≤ 9223372036854775807) :
    Calls Tryz.prog 98 #[v, .int .i64 x] w fun e w' => e = .returned (.bool (memB l x)) ∧ w = w' := by
  obtain ⟨a, cap, rfl, _, _, hl, h64, b, off, ha, hc⟩ := H
  go_enter Tryz.func98, Tryz.ntmps98
  go_wp2
  go_loop [5] (fun i => ∃ k : Nat, k ≤ l.length ∧ i = .int .i64 k ∧ x ∉ l.take k) (fun i => l.length - (intOf i).toNat)
  case atStart => exact ⟨0, Nat.zero_le _, rfl, by simp⟩
  case round =>
    obtain ⟨k, hk, rfl, hn⟩ := hrel
    by_cases hlt : k < l.length
    · obtain ⟨rfl, hb⟩ := ha (by intro h; simp [h] at hlt)
      have hy := hc k hlt
      have hmem : l.getD k 0 ∈ l := by simp [List.getD, hlt]
      have htk : l.take (k + 1) = l.take k ++ [l.getD k 0] := by rw [List.take_succ_eq_append_getElem hlt]; simp [List.getD, hlt]
      have HT := Lib.hid htk
      generalize l.getD k 0 = y at *
      clear htk hc ha
      by_cases he : y = x
      · subst he
        have he : (y == y) = true := by simp
        clear HT
        go_wp2
        go_ret
        exact ⟨ret_bool (by unfold memB; simp [hmem]), rfl⟩
      · have he' : (y == x) = false := by simp [he]
        go_wp2
        go_round
        case rel => exact ⟨k + 1, by omega, by go_num, by rw [HT.out]; simp [hn, Ne.symm he]⟩
        case measure => simp [intOf]; omega
    · rw [List.take_of_length_le (by omega)] at hn
      go_wp2
      go_ret
      exact ⟨ret_bool (by unfold memB; simp [hn]), rfl⟩

/-- More gates, or literals, than a law looks at. -/
def manyG (gs : List Gt) : Bool := decide (300 < gs.length) || decide (1500 < sizeR gs)
end Go.Proofs.YtfghjfljomcldaaGreat
namespace Go.Proofs.YtfghjfljomcldaaGreat
open Go.RowKit Go.Maps
set_option linter.unusedVariables false
set_option linter.unusedSimpArgs false

theorem flat_take_len5 {α : Type} (p : List (α × List Int)) (k : Nat) : (flatB (p.take k)).length ≤ (flatB p).length := by
  have h1 : flatB (p.take k) ++ flatB (p.drop k) = flatB p := by
    unfold flatB
    rw [← List.flatten_append, ← List.map_append, List.take_append_drop]
  rw [← h1]
  simp
set_option maxHeartbeats 800000 in
set_option maxRecDepth 100000 in
theorem vars5_any (v : Value) (p : List Blk) (w : World) (H : IsBlocks w v p) (hp : (flatB p).length ≤ 4000000) :
    Calls Tryz.prog 124 #[v] w fun e w' => ∃ u, e = .returned u ∧ Own w' w.heap.size u (flatB p) ∧ Below w.heap.size w w' := by
  obtain ⟨a, cap, rfl, hl⟩ := H.shape
  have HH := Lib.hid H
  have HP := Lib.hid hp
  clear H hp
  go_enter Tryz.func124, Tryz.ntmps124
  go_wp2
  go_loopw [3, 4] (fun out i wr => ∃ k : Nat, k ≤ p.length ∧ i = .int .i64 k ∧ Own wr w.heap.size out (flatB (p.take k)) ∧ Below w.heap.size w wr) (fun _ i _ => p.length - (intOf i).toNat)
  case atStart => exact ⟨0, Nat.zero_le _, rfl, by simpa [flatB] using Own.nil w w.heap.size, Below.refl _ _⟩
  case round =>
    obtain ⟨k, hk, rfl, hown, hbel⟩ := hrel
    have hsz := hbel.size
    by_cases hlt : k < p.length
    · obtain ⟨b, off, u, rfl, hb, hcx0, hcu0, HU0⟩ := HH.out.at hlt
      have hcu := (hbel.cell (p := ⟨b, off + k * 2 + 1, none⟩) hb).trans hcu0
      have HU := Lib.hid (HU0.below hbel (Nat.le_refl _))
      have HFT := Lib.hid (flat_take_succ (d := dB) hlt)
      have hlen : (flatB (p.take k)).length + (p.getD k dB).2.length ≤ 17592186044416 := by
        have h1 := flat_take_len5 p (k + 1)
        have h2 := HFT.out
        have h3 := HP.out
        rw [h2, List.length_append] at h1
        omega
      have HLN := Lib.hid hlen
      obtain ⟨ua, uc, rfl⟩ := HU0.shape
      clear hcx0 hcu0 HU0 hlen
      generalize p.getD k dB = y at *
      obtain ⟨y1, y2⟩ := y
      simp only at hcu
      have HB := Lib.hid hbel
      have HO := Lib.hid hown
      have HL2 : Hid ((flatB (p.take k)).length + y2.length ≤ 17592186044416) := HLN.out
      have HFT2 : Hid (flatB (p.take (k + 1)) = flatB (p.take k) ++ y2) := HFT.out
      have HU2 : Hid (IsInts wr (.slice ua y2.length uc) y2) := HU.out
      clear hbel hown HLN HFT HU
      go_wp2_with (at_builtin; refine wpList_app rfl (.tmp 11) (.tmp 16) rfl w.heap.size _ _ (flatB (p.take k)) y2 rfl rfl HO.out HU2.out HL2.out hsz ?_; intro v' w1 hown1 hg1)
      have HB1 := Lib.hid (below_app HB.out HO.out hsz hg1)
      have HO1 := Lib.hid hown1
      clear hown1 hg1
      go_roundw
      case rel => exact ⟨k + 1, by omega, by go_num, by rw [HFT2.out]; exact HO1.out, HB1.out⟩
      case measure => simp [intOf]; omega
    · have hke : k = p.length := by omega
      subst hke
      rw [List.take_length] at hown
      go_wp2
      go_ret
      exact ⟨_, rfl, hown, hbel⟩

set_option maxHeartbeats 800000 in
set_option maxRecDepth 100000 in
theorem shape5_any (x k : Int) (u : Value) (l : List Int) (w : World) (H : IsInts w u l) :
    Calls Tryz.prog 125 #[.agg #[.int .i64 x, .int .u8 k, u]] w fun e w' => e = .returned (.bool (fitsB k l.length)) ∧ Below w.heap.size w w' := by
  obtain ⟨ua, uc, rfl⟩ := H.shape
  have HB : Hid (Below w.heap.size w (w.alloc (.cells #[.int .i64 x, .int .u8 k, .slice ua l.length uc] 101))) := below_newR _ _
  have HR : Hid (fitsB k l.length = if k = 1 ∨ k = 2 then true else if k = 3 then decide (l.length = 2) else if k = 4 then decide (l.length = 3) else false) := by show _ = _; unfold fitsB; rfl
  have hl2 : ((l.length : Int) == 2) = decide (l.length = 2) := by rw [Bool.eq_iff_iff]; simp; omega
  have hl3 : ((l.length : Int) == 3) = decide (l.length = 3) := by rw [Bool.eq_iff_iff]; simp; omega
  clear H
  generalize fitsB k l.length = rr at *
  by_cases h1 : k = 1
  · subst h1
    go_enter Tryz.func125, Tryz.ntmps125
    go_wp2
    go_ret
    exact ⟨ret_bool (by rw [HR.out]; rfl), HB.out⟩
  · by_cases h2 : k = 2
    · subst h2
      go_enter Tryz.func125, Tryz.ntmps125
      go_wp2
      go_ret
      exact ⟨ret_bool (by rw [HR.out]; rfl), HB.out⟩
    · by_cases h3 : k = 3
      · subst h3
        go_enter Tryz.func125, Tryz.ntmps125
        go_wp2
        go_ret
        exact ⟨ret_bool (by rw [HR.out]; rfl), HB.out⟩
      · by_cases h4 : k = 4
        · subst h4
          go_enter Tryz.func125, Tryz.ntmps125
          go_wp2
          go_ret
          exact ⟨ret_bool (by rw [HR.out]; rfl), HB.out⟩
        · have e1 : (k == 1) = false := by simpa using h1
          have e2 : (k == 2) = false := by simpa using h2
          have e3 : (k == 3) = false := by simpa using h3
          have e4 : (k == 4) = false := by simpa using h4
          have HR2 : Hid (rr = false) := by show _ = _; rw [HR.out, if_neg (by omega), if_neg h3, if_neg h4]
          clear HR h1 h2 h3 h4
          go_enter Tryz.func125, Tryz.ntmps125
          go_wp2
          go_ret
          exact ⟨ret_bool HR2.out.symm, HB.out⟩
end Go.Proofs.YtfghjfljomcldaaGreat
namespace Go.Proofs.YtfghjfljomcldaaGreat
open Go.RowKit Go.Maps Go.Shelf
set_option linter.unusedVariables false
set_option linter.unusedSimpArgs false

set_option maxHeartbeats 800000 in
set_option maxRecDepth 100000 in
theorem marks5_any (v : Value) (l : List Int) (w : World) (H : IsInts w v l) (hv : ∀ x ∈ l, 0 ≤ x ∧ x ≤ 65536) :
    Calls Tryz.prog 123 #[v] w fun e w' => ∃ b, e = .returned (.slice (some ⟨b, 0, none⟩) nM nM) ∧ Mk w' w.heap.size b (fun x => decide (x ∈ l)) ∧ Below w.heap.size w w' := by
  have HH := Lib.hid H
  have HV := Lib.hid hv
  have hnm := nM_eq
  have HNM := Lib.hid hnm
  obtain ⟨a, cap, rfl⟩ := H.shape
  have hll := H.len
  clear H hv hnm
  go_enter Tryz.func123, Tryz.ntmps123
  go_wp2_with (refine wpList_mkBools2 rfl _ _ rfl nM 65537 65537 rfl rfl (by rw [HNM.out]; rfl) (by rw [HNM.out]; rfl) (by rw [HNM.out]; decide) ?_; intro w1 hown hg; have HO := Lib.hid hown; have HB1 := Lib.hid ((Below.refl w.heap.size w).grown hg (Nat.le_refl _) (fun k hk => by cases hk)); clear hown hg)
  have HM0 : Hid (Mk w1 w.heap.size w.heap.size (fun x => decide (x ∈ l.take 0))) := ⟨_, HO.out, by rw [List.length_replicate], fun i hi => by simp [List.getD, List.getElem?_replicate, hi]⟩
  clear HO
  go_loopw [4] (fun i wr => ∃ k : Nat, k ≤ l.length ∧ i = .int .i64 k ∧ Mk wr w.heap.size w.heap.size (fun x => decide (x ∈ l.take k)) ∧ Below w.heap.size w wr) (fun i _ => l.length - (intOf i).toNat)
  case atStart => exact ⟨0, Nat.zero_le _, rfl, HM0.out, HB1.out⟩
  case round =>
    obtain ⟨k, hk, rfl, hmk, hbel⟩ := hrel
    have HM := Lib.hid hmk
    have HB := Lib.hid hbel
    clear hmk hbel
    by_cases hlt : k < l.length
    · obtain ⟨b, off, rfl, hb, hc0⟩ := HH.out.cellY hlt
      have hc := (HB.out.cell (p := ⟨b, off + k, none⟩) hb).trans hc0
      have HTK : Hid (l.take (k + 1) = l.take k ++ [l.getD k 0]) := by show _ = _; rw [List.take_succ_eq_append_getElem hlt]; simp [List.getD, hlt]
      have hr := HV.out (l.getD k 0) (by simp [List.getD, hlt])
      have HKL := Lib.hid hlt
      clear hc0 hlt
      generalize l.getD k 0 = x at *
      obtain ⟨n, rfl⟩ := Int.eq_ofNat_of_zero_le hr.1
      have hn : n < nM := by rw [HNM.out]; omega
      have hn0 : (0 : Int) ≤ (n : Int) := by omega
      have hn1 : (n : Int) < (nM : Int) := by omega
      have m0 := HM.out.cell hn
      have m1 := HM.out.frozen n
      have HM2 := Lib.hid (HM.out.set n hn true)
      have HB2 := Lib.hid (HB.out.setCell (p := ⟨w.heap.size, n, none⟩) (u := .bool true) (Nat.le_refl _))
      clear hr
      go_wp2
      go_roundw
      case rel => exact ⟨k + 1, HKL.out, by go_num, HM2.out.congr (fun i hi1 hi2 => by
        rw [HTK.out]
        unfold updB
        by_cases e : i = (n : Int)
        · subst e; simp
        · rw [if_neg e]; simp [e]), HB2.out⟩
      case measure => have := HKL.out; simp [intOf]; omega
    · have HK : Hid (k = l.length) := by show _ = _; omega
      have HM2 : Hid (Mk wr w.heap.size w.heap.size (fun x => decide (x ∈ l))) := by have h := HM.out; rw [HK.out, List.take_length] at h; exact h
      go_wp2
      go_ret
      exact ⟨_, rfl, HM2.out, HB.out⟩
end Go.Proofs.YtfghjfljomcldaaGreat
namespace Go.Proofs.YtfghjfljomcldaaGreat
open Go.RowKit Go.Maps Go.Shelf
set_option linter.unusedVariables false
set_option linter.unusedSimpArgs false

/-- A literal of a marked variable. -/
def knownB (f : Int → Bool) (x : Int) : Bool := varB (abs5 x) && f (abs5 x)
set_option maxHeartbeats 800000 in
set_option maxRecDepth 100000 in
theorem known5_any (B b : Nat) (f : Int → Bool) (x : Int) (w : World) (HM : Mk w B b f) (h1 : -9223372036854775808 ≤ x) (h2 : x ≤ 9223372036854775807) :
    Calls Tryz.prog 126 #[.slice (some ⟨b, 0, none⟩) nM nM, .int .i64 x] w fun e w' => e = .returned (.bool (knownB f x)) ∧ w = w' := by
  have HA := Lib.hid (abs5_any x w h1 h2)
  have HV := Lib.hid (vari5_any (abs5 x) w)
  have HR : Hid (knownB f x = (varB (abs5 x) && f (abs5 x))) := rfl
  generalize knownB f x = rr at *
  generalize abs5 x = y at *
  cases hv : varB y with
  | false =>
    rw [hv] at HV HR
    clear hv
    go_enter Tryz.func126, Tryz.ntmps126
    go_wp2_with (first
      | (go_at_call 121; refine HA.out.mono ?_; rintro e w1 ⟨rfl, rfl⟩)
      | (go_at_call 120; refine HV.out.mono ?_; rintro e w1 ⟨rfl, rfl⟩))
    go_ret
    exact ⟨ret_bool (by rw [HR.out]; rfl), rfl⟩
  | true =>
    have hb : 1 ≤ y ∧ y ≤ 65536 := by unfold varB at hv; simpa using hv
    rw [hv] at HV HR
    clear hv
    obtain ⟨n, rfl⟩ := Int.eq_ofNat_of_zero_le (show 0 ≤ y by omega)
    have hn : n < nM := by rw [nM_eq]; omega
    have hn0 : (0 : Int) ≤ (n : Int) := by omega
    have hn1 : (n : Int) < (nM : Int) := by omega
    have m0 := HM.cell hn
    clear hb HM
    generalize f (n : Int) = t at *
    go_enter Tryz.func126, Tryz.ntmps126
    go_wp2_with (first
      | (go_at_call 121; refine HA.out.mono ?_; rintro e w1 ⟨rfl, rfl⟩)
      | (go_at_call 120; refine HV.out.mono ?_; rintro e w1 ⟨rfl, rfl⟩))
    go_ret
    exact ⟨ret_bool (by rw [HR.out]; rfl), rfl⟩
end Go.Proofs.YtfghjfljomcldaaGreat
namespace Go.Proofs.YtfghjfljomcldaaGreat
open Go.RowKit Go.Maps Go.Shelf
set_option linter.unusedVariables false
set_option linter.unusedSimpArgs false

theorem abs5_vo (x : Int) : varOf x = if 65536 < abs5 x then 0 else abs5 x := by
  unfold varOf abs5
  split <;> split <;> (try split) <;> (try split) <;> omega
theorem abs5_pos {x : Int} (h1 : -9223372036854775808 ≤ x) : 0 ≤ abs5 x := by unfold abs5; split <;> (try split) <;> omega
set_option maxHeartbeats 3200000 in
set_option maxRecDepth 100000 in
theorem rnormal5_any (v : Value) (l : List Int) (w : World) (H : IsInts w v l) :
    Calls Tryz.prog 46 #[v] w fun e w' => e = .returned (.bool (mayB l)) ∧ Quiet w w' := by
  have h64 : In64 l := by obtain ⟨_, _, _, _, _, _, g, _⟩ := H; exact g
  have hll : l.length ≤ 17592186044416 := H.len
  have HU := Lib.hid H
  have H64 := Lib.hid h64
  obtain ⟨a, cap, rfl⟩ := H.shape
  clear H h64
  go_enter Tryz.func46, Tryz.ntmps46
  go_wp2
  go_loopw [3] (fun i wr => ∃ (k : Nat) (m : Int), k ≤ l.length ∧ i = .int .i64 k ∧ Quiet w wr ∧ mayB l = mayFrom m (l.drop k) ∧ (k = 0 → m = 0) ∧ (0 < k → abs5 (l.getD (k - 1) 0) = m)) (fun i _ => l.length - (intOf i).toNat)
  case atStart => exact ⟨0, 0, Nat.zero_le _, rfl, Quiet.refl _, by simp [mayB], fun _ => rfl, fun h => by omega⟩
  case round =>
    obtain ⟨k, m, hk, rfl, hq, hi, hk0, hkp⟩ := hrel
    have HI := Lib.hid hi
    have HK0 := Lib.hid hk0
    have HKP := Lib.hid hkp
    clear hi hk0 hkp
    by_cases hlt : k < l.length
    · obtain ⟨b, off, rfl, hb, hc0⟩ := HU.out.cellY hlt
      have hy := (hq.cell _).trans hc0
      have HPC : Hid (0 < k → wr.cell? ⟨b, off + (k - 1), none⟩ = some (.int .i64 (l.getD (k - 1) 0))) := fun h => by
        obtain ⟨b', off', e, _, hc⟩ := HU.out.cellY (k := k - 1) (by omega)
        injection e with e
        injection e with e1 e2
        subst e1; subst e2
        exact (hq.cell _).trans hc
      have hne : ¬ l = [] := by intro e; rw [e] at hlt; simp at hlt
      have HD := Lib.hid (mayFrom_drop m l k hlt)
      have HAV := Lib.hid (abs5_vo (l.getD k 0))
      have hr := H64.out (l.getD k 0) (by simp [List.getD, hlt])
      have HPX : Hid (0 < k → -9223372036854775808 ≤ l.getD (k - 1) 0 ∧ l.getD (k - 1) 0 ≤ 9223372036854775807) := fun h => H64.out _ (by simp [List.getD, show k - 1 < l.length by omega])
      have HCY := Lib.hid (fun W => abs5_any (l.getD k 0) W hr.1 hr.2)
      have hi0 : (0 : Int) ≤ (k : Int) := by omega
      have hi1 : (k : Int) < (l.length : Int) := by omega
      have HNX : Hid (0 < k + 1 → abs5 (l.getD (k + 1 - 1) 0) = abs5 (l.getD k 0)) := fun _ => by rw [Nat.add_sub_cancel]
      have HKL := Lib.hid hlt
      have hp := abs5_pos hr.1
      clear hc0 hr hlt
      generalize varOf (l.getD k 0) = z at *
      generalize abs5 (l.getD k 0) = q at *
      generalize l.getD k 0 = y at *
      have HV := Lib.hid (fun W => vari5_any q W)
      have HVD : Hid (varB q = (decide (1 ≤ q) && decide (q ≤ 65536))) := rfl
      cases hv : varB q with
      | false =>
        rw [hv] at HV
        have HM : Hid (mayB l = false) := by
          show _ = _
          rw [HI.out, HD.out, HAV.out]
          have h1 := HVD.out
          rw [hv] at h1
          by_cases h6 : 65536 < q
          · rw [if_pos h6]
            cases k with
            | zero => rw [HK0.out rfl]; rfl
            | succ k' =>
              have hm : 0 ≤ m := by rw [← HKP.out (by omega)]; exact abs5_pos (HPX.out (by omega)).1
              have : decide (m < 0) = false := by simpa using hm
              rw [this]; rfl
          · rw [if_neg h6]
            have h7 : q = 0 := by
              have h8 : ¬ (1 ≤ q ∧ q ≤ 65536) := by intro hh; simp [hh.1, hh.2] at h1
              omega
            rw [h7]
            cases k with
            | zero => rw [HK0.out rfl]; rfl
            | succ k' =>
              have hm : 0 ≤ m := by rw [← HKP.out (by omega)]; exact abs5_pos (HPX.out (by omega)).1
              have : decide (m < 0) = false := by simpa using hm
              rw [this]; rfl
        clear hv hp
        go_wp2_with fail
        go_quiet ((first
          | (go_at_call 121; exact quiet_left (HCY.out _))
          | (go_at_call 120; exact quiet_left (HV.out _))))
        go_wp2
        go_ret
        exact ⟨ret_bool HM.out.symm, hq.drewN _⟩
      | true =>
        rw [hv] at HV
        have hb2 : 1 ≤ q ∧ q ≤ 65536 := by have h1 := HVD.out; rw [hv] at h1; simpa using h1.symm
        have HSTEP : Hid (mayB l = (decide (m < q) && mayFrom q (l.drop (k + 1)))) := by
          show _ = _
          rw [HI.out, HD.out, HAV.out, if_neg (by omega)]
        have HQ1 := Lib.hid hb2
        clear hv hp hb2 HVD HAV HD HI
        cases k with
        | zero =>
          have hm : m = 0 := HK0.out rfl
          subst hm
          rw [Nat.add_zero] at hy
          have HM : Hid (mayB l = mayFrom q (l.drop (0 + 1))) := by
            show _ = _
            rw [HSTEP.out]
            have : decide ((0 : Int) < q) = true := by have := HQ1.out; simp; omega
            rw [this]
            rfl
          clear HSTEP HPC HPX
          go_wp2_with fail
          go_quiet ((first
            | (go_at_call 121; exact quiet_left (HCY.out _))
            | (go_at_call 120; exact quiet_left (HV.out _))))
          go_wp2
          go_roundw
          case rel => exact ⟨0 + 1, q, HKL.out, by go_num, hq.drewN _, HM.out, fun h => by omega, fun h => HNX.out h⟩
          case measure => have := HKL.out; simp [intOf]; omega
        | succ k' =>
          have hx1 := HKP.out (by omega)
          have hcx := HPC.out (by omega)
          have hxr := HPX.out (by omega)
          simp only [Nat.add_sub_cancel] at hx1 hxr hcx
          have hcallx := fun (W : World) => abs5_any (l.getD k' 0) W hxr.1 hxr.2
          rw [hx1] at hcallx
          have hi2 : (0 : Int) < (k' : Int) + 1 := by omega
          have hi3 : (0 : Int) ≤ (k' : Int) := by omega
          have hi4 : (k' : Int) < (l.length : Int) := by omega
          have HCX := Lib.hid hcallx
          clear hcallx HPC HKP HK0 hx1 HPX hxr
          generalize l.getD k' 0 = x at *
          by_cases hge : q ≤ m
          · have HM : Hid (mayB l = false) := by
              show _ = _
              rw [HSTEP.out]
              have : decide (m < q) = false := by simp; omega
              rw [this]
              rfl
            clear HSTEP HNX
            go_wp2_with fail
            go_quiet ((first
              | (go_at_call 120; exact quiet_left (HV.out _))
              | (go_at_call_of 121 (Value.int .i64 x); exact quiet_left (HCX.out _))
              | (go_at_call_of 121 (Value.int .i64 y); exact quiet_left (HCY.out _))))
            go_wp2
            go_ret
            exact ⟨ret_bool HM.out.symm, hq.drewN _⟩
          · have hge' : decide (q ≤ m) = false := by simpa using hge
            have HM : Hid (mayB l = mayFrom q (l.drop (k' + 1 + 1))) := by
              show _ = _
              rw [HSTEP.out]
              have : decide (m < q) = true := by simp; omega
              rw [this]
              rfl
            clear HSTEP
            go_wp2_with fail
            go_quiet ((first
              | (go_at_call 120; exact quiet_left (HV.out _))
              | (go_at_call_of 121 (Value.int .i64 x); exact quiet_left (HCX.out _))
              | (go_at_call_of 121 (Value.int .i64 y); exact quiet_left (HCY.out _))))
            go_wp2
            go_roundw
            case rel => exact ⟨k' + 1 + 1, q, HKL.out, by go_num, hq.drewN _, HM.out, fun h => by omega, fun h => HNX.out h⟩
            case measure => have := HKL.out; simp [intOf]; omega
    · have HE : Hid (mayB l = true) := by
        have h := HI.out
        rw [List.drop_of_length_le (by omega)] at h
        exact h
      go_wp2
      go_ret
      exact ⟨ret_bool HE.out.symm, hq⟩
end Go.Proofs.YtfghjfljomcldaaGreat
namespace Go.Proofs.YtfghjfljomcldaaGreat
open Go.RowKit Go.Maps Go.Shelf
set_option linter.unusedVariables false
set_option linter.unusedSimpArgs false

theorem ent_var {S : List Int} {v : Int} : entB S v = (varB v && !memB S v) := by
  unfold entB varB memB
  rw [Bool.eq_iff_iff]
  simp [and_assoc]
theorem own_to {w w' : World} {B : Nat} {v : Value} {xs : List Int} (h : Own w B v xs) (hb : Below w.heap.size w w') : Own w' B v xs := (keptOf (S := fun _ => False) hb).row h (fun _ _ h => h)
set_option maxHeartbeats 3200000 in
set_option maxRecDepth 100000 in
theorem rprefix5_any (v : Value) (p : List Blk) (w : World) (H : IsBlocks w v p) (hp : p.length ≤ 4000000) :
    Calls Tryz.prog 122 #[v] w fun e w' => e = .returned (.bool (mayP p)) ∧ Below w.heap.size w w' := by
  obtain ⟨a, cap, rfl, hl⟩ := H.shape
  have HH := Lib.hid H
  clear H
  go_enter Tryz.func122, Tryz.ntmps122
  go_wp2
  go_loopw [3, 4] (fun out i wr => ∃ k : Nat, k ≤ p.length ∧ i = .int .i64 k ∧ Own wr w.heap.size out (flatB (p.take k)) ∧ Below w.heap.size w wr ∧ numsOk (flatB (p.take k)) ∧ ∀ j, j < k → blkOk p j) (fun _ i _ => p.length - (intOf i).toNat)
  case atStart => exact ⟨0, Nat.zero_le _, rfl, by simpa [flatB] using Own.nil w w.heap.size, Below.refl _ _, by simpa [flatB] using nums_nil, fun j h => by omega⟩
  case round =>
    obtain ⟨k, hk, rfl, hown, hbel, hnums, hblk⟩ := hrel
    have hsz := hbel.size
    have HO := Lib.hid hown
    have HN := Lib.hid hnums
    have HK := Lib.hid hblk
    have HB := Lib.hid hbel
    obtain ⟨sa, sc, rfl⟩ := own_shC hown
    by_cases hlt : k < p.length
    · obtain ⟨b, off, u, rfl, hb, hcx0, hcu0, HU0⟩ := HH.out.at hlt
      have hcx := (hbel.cell (p := ⟨b, off + k * 2, none⟩) hb).trans hcx0
      have hcu := (hbel.cell (p := ⟨b, off + k * 2 + 1, none⟩) hb).trans hcu0
      obtain ⟨ua, uc, rfl⟩ := HU0.shape
      have HU := Lib.hid HU0
      have HFT := Lib.hid (flat_take_succ (d := dB) hlt)
      have HPF := Lib.hid (fun t => flat_prefix (d := dB) hlt t)
      have HNB := Lib.hid (mayP_blk hlt)
      have HBD : Hid (blkOk p k ↔ (p.getD k dB).2 ≠ [] ∧ (0 < k → (p.getD k dB).1 ≠ (p.getD (k - 1) dB).1)) := Iff.rfl
      have hpr : Hid (0 < k → ∃ e, (p.getD (k - 1) dB).1 = e ∧ wr.cell? ⟨b, off + (k - 1) * 2, none⟩ = some (.bool e)) := by
        intro hk0
        obtain ⟨b', off', u', e1, hb', hc', _, _⟩ := HH.out.at (show k - 1 < p.length by omega)
        injection e1 with e1
        injection e1 with e1 e2 _
        subst e1; subst e2
        exact ⟨_, rfl, (hbel.cell (p := ⟨b, off + (k - 1) * 2, none⟩) hb).trans hc'⟩
      have HKL := Lib.hid hlt
      have hne : ¬ p = [] := by intro e; rw [e] at hlt; simp at hlt
      have hk0 : (0 : Int) ≤ (k : Int) := by omega
      have hk1 : (k : Int) < (p.length : Int) := by omega
      have hk2 : (k : Int) < 4000001 := by omega
      have HCU0 := Lib.hid hcu0
      clear hcx0 hcu0 HU0 hown hbel hnums hblk hlt
      generalize p.getD k dB = y at *
      obtain ⟨y1, y2⟩ := y
      simp only at hcx hcu HU HFT HPF HBD
      generalize flatB (p.take k) = S at *
      by_cases h0 : y2 = []
      · have HM : Hid (mayP p = false) := HNB.out (fun h => (HBD.out.1 h).1 h0)
        have hz : ((y2.length : Int) == 0) = true := by rw [h0]; rfl
        clear h0 hpr HPF HFT
        go_wp2_with fail
        go_quiet (fail)
        go_wp2
        go_ret
        exact ⟨ret_bool HM.out.symm, HB.out.trans (Quiet.below ⟨_, rfl⟩ _)⟩
      · have hz : ((y2.length : Int) == 0) = false := by simpa using h0
        have HY0 := Lib.hid h0
        clear h0
        have finish : True := trivial
        by_cases hbad : 0 < k ∧ y1 = (p.getD (k - 1) dB).1
        · obtain ⟨e, he, hce⟩ := hpr.out hbad.1
          have HM : Hid (mayP p = false) := HNB.out (fun h => (HBD.out.1 h).2 hbad.1 hbad.2)
          have hye : y1 = e := hbad.2.trans he
          obtain ⟨k', rfl⟩ : ∃ k', k = k' + 1 := ⟨k - 1, by omega⟩
          rw [Nat.add_sub_cancel] at hce
          subst hye
          have hi2 : (0 : Int) < (k' : Int) + 1 := by omega
          have hi3 : (0 : Int) ≤ (k' : Int) := by omega
          have hi4 : (k' : Int) < (p.length : Int) := by omega
          have hj1 : (k' : Int) + 1 < (p.length : Int) := by omega
          have hj0 : (0 : Int) ≤ (k' : Int) + 1 := by omega
          clear hbad he hpr HPF HFT HBD hk hk0 hk1 hk2 hp
          cases y1 with
          | true =>
            go_wp2_with fail
            go_quiet (fail)
            go_wp2
            go_ret
            exact ⟨ret_bool HM.out.symm, HB.out.trans (Quiet.below ⟨_, rfl⟩ _)⟩
          | false =>
            go_wp2_with fail
            go_quiet (fail)
            go_wp2
            go_ret
            exact ⟨ret_bool HM.out.symm, HB.out.trans (Quiet.below ⟨_, rfl⟩ _)⟩
        · have HOK : Hid (blkOk p k) := HBD.out.2 ⟨HY0.out, fun h e => hbad ⟨h, e⟩⟩
          have HBAD := Lib.hid hbad
          clear hbad
          go_upto_region 5 with fail
          go_cut [36] from 12 to 36 (fun s wx => s = .bool false ∧ Below wr.heap.size wr wx)
          case first =>
            cases k with
            | zero =>
              rw [Nat.zero_mul, Nat.add_zero] at hcx
              rw [Nat.zero_mul, Nat.add_zero] at hcu
              clear hpr HPF HFT HBD hp hk2
              go_wp2_with fail
              go_quiet (fail)
              go_wp2
              go_meet
              exact ⟨rfl, Quiet.below ⟨_, rfl⟩ _⟩
            | succ k' =>
              obtain ⟨e, he, hce⟩ := hpr.out (by omega)
              rw [Nat.add_sub_cancel] at hce
              have hye : ¬ y1 = e := fun h => HBAD.out ⟨by omega, h.trans he.symm⟩
              have h2 : (y1 = true ∧ e = false) ∨ (y1 = false ∧ e = true) := by cases y1 <;> cases e <;> simp at hye ⊢
              have hi2 : (0 : Int) < (k' : Int) + 1 := by omega
              have hi3 : (0 : Int) ≤ (k' : Int) := by omega
              have hi4 : (k' : Int) < (p.length : Int) := by omega
              have hj1 : (k' : Int) + 1 < (p.length : Int) := by omega
              have hj0 : (0 : Int) ≤ (k' : Int) + 1 := by omega
              clear hye he hpr HPF HFT HBD hk hk0 hk1 hk2 hp
              rcases h2 with ⟨rfl, rfl⟩ | ⟨rfl, rfl⟩
              · go_wp2_with fail
                go_quiet (fail)
                go_wp2
                go_meet
                exact ⟨rfl, Quiet.below ⟨_, rfl⟩ _⟩
              · go_wp2_with fail
                go_quiet (fail)
                go_wp2
                go_meet
                exact ⟨rfl, Quiet.below ⟨_, rfl⟩ _⟩
          case rest =>
            obtain ⟨rfl, hbc⟩ := hcut
            have HBC := Lib.hid (HB.out.trans (hbc.mono hsz))
            have HOC : Hid (Own wc w.heap.size (.slice sa S.length sc) S) := own_to HO.out hbc
            have HUC : Hid (IsInts w (.slice ua y2.length uc) y2) := HU.out
            have HCU : Hid (∀ X, Below w.heap.size w X → X.cell? ⟨b, off + k * 2 + 1, none⟩ = some (.slice ua y2.length uc)) := fun X hX => (hX.cell (p := ⟨b, off + k * 2 + 1, none⟩) hb).trans HCU0.out
            clear hbc hcx hcu hpr
            go_wp2
            go_loopw [3, 5] (fun out i2 w2 => ∃ q : Nat, q ≤ y2.length ∧ i2 = .int .i64 q ∧ Own w2 w.heap.size out (S ++ y2.take q) ∧ Below w.heap.size w w2 ∧ Hid (numsOk (S ++ y2.take q))) (fun _ i2 _ => y2.length - (intOf i2).toNat)
            case atStart => exact ⟨0, Nat.zero_le _, rfl, by simpa using HOC.out, HBC.out, by rw [List.take_zero, List.append_nil]; exact HN⟩
            case round =>
              obtain ⟨q, hq, rfl, hown, hbel, HNQ⟩ := hrel
              have hsz2 := hbel.size
              have HO2 := Lib.hid hown
              have HB2 := Lib.hid hbel
              obtain ⟨sa2, sc2, rfl⟩ := own_shC hown
              have hcu := HCU.out _ hbel
              clear hown hbel
              by_cases hlt : q < y2.length
              · obtain ⟨b2, off2, rfl, hb2, hc0⟩ := HUC.out.cellY hlt
                have hc := (HB2.out.cell (p := ⟨b2, off2 + q, none⟩) hb2).trans hc0
                have HTK : Hid (y2.take (q + 1) = y2.take q ++ [y2.getD q 0]) := by show _ = _; rw [List.take_succ_eq_append_getElem hlt]; simp [List.getD, hlt]
                have H64 : Hid (-9223372036854775808 ≤ y2.getD q 0 ∧ y2.getD q 0 ≤ 9223372036854775807) := by obtain ⟨_, _, _, _, _, _, g, _⟩ := HUC.out; exact g _ (by simp [List.getD, hlt])
                have HPR := Lib.hid (HPF.out (q + 1))
                rw [HTK.out, ← List.append_assoc] at HPR
                have HQL := Lib.hid hlt
                have hne2 : ¬ y2 = [] := by intro e; rw [e] at hlt; simp at hlt
                have hq0 : (0 : Int) ≤ (q : Int) := by omega
                have hq1 : (q : Int) < (y2.length : Int) := by omega
                have hq2 : (q : Int) < 17592186044416 := by have := HUC.out.len; omega
                clear hc0 hlt
                generalize y2.getD q 0 = x at *
                have HAPP : Hid (S ++ y2.take (q + 1) = S ++ y2.take q ++ [x]) := by show _ = _; rw [HTK.out, List.append_assoc]
                generalize S ++ y2.take q = T at *
                have hTL : T.length ≤ 1024 := HNQ.out.2.2
                have hTI : IsInts wr (.slice sa2 T.length sc2) T := HO2.out.ints (by omega) (fun z hz => by have := HNQ.out.2.1 z hz; omega)
                have HV := Lib.hid (vari5_any x wr)
                have HIN := Lib.hid (in5_any _ T x wr hTI H64.out.1 H64.out.2)
                have HEV := Lib.hid (ent_var (S := T) (v := x))
                have HTL := Lib.hid hTL
                clear hTI hTL
                cases hv : varB x with
                | false =>
                  rw [hv] at HV
                  have HM : Hid (mayP p = false) := mayP_num HPR.out (nums_noent (by rw [HEV.out, hv]; rfl))
                  clear hv
                  go_wp2_with (go_at_call 120; refine HV.out.mono ?_; rintro e w1 ⟨rfl, rfl⟩)
                  go_ret
                  exact ⟨ret_bool HM.out.symm, HB2.out⟩
                | true =>
                  rw [hv] at HV
                  cases hm : memB T x with
                  | true =>
                    rw [hm] at HIN
                    have HM : Hid (mayP p = false) := mayP_num HPR.out (nums_noent (by rw [HEV.out, hv, hm]; rfl))
                    clear hv hm
                    go_wp2_with (first
                      | (go_at_call 120; refine HV.out.mono ?_; rintro e w1 ⟨rfl, rfl⟩)
                      | (go_at_call 98; refine HIN.out.mono ?_; rintro e w1 ⟨rfl, rfl⟩))
                    go_ret
                    exact ⟨ret_bool HM.out.symm, HB2.out⟩
                  | false =>
                    rw [hm] at HIN
                    by_cases hfull : T.length = 1024
                    · have HM : Hid (mayP p = false) := mayP_num HPR.out (nums_long (by rw [List.length_append, hfull]; simp))
                      have hz2 : ((T.length : Int) == 1024) = true := by rw [hfull]; rfl
                      clear hv hm hfull
                      go_wp2_with (first
                        | (go_at_call 120; refine HV.out.mono ?_; rintro e w1 ⟨rfl, rfl⟩)
                        | (go_at_call 98; refine HIN.out.mono ?_; rintro e w1 ⟨rfl, rfl⟩))
                      go_ret
                      exact ⟨ret_bool HM.out.symm, HB2.out⟩
                    · have hz2 : ((T.length : Int) == 1024) = false := by simp; omega
                      have HNQ2 : Hid (numsOk (T ++ [x])) := nums_ent HNQ.out (by rw [HEV.out, hv, hm]; rfl) (by have := HTL.out; omega)
                      clear hv hm hfull
                      go_wp2_with (first
                        | (go_at_call 120; refine HV.out.mono ?_; rintro e w1 ⟨rfl, rfl⟩)
                        | (go_at_call 98; refine HIN.out.mono ?_; rintro e w1 ⟨rfl, rfl⟩)
                        | (at_builtin; refine wpList_app1 rfl (.tmp 74) (.tmp 83) rfl w.heap.size (.slice sa2 T.length sc2) T x wr.heap.size rfl rfl (HO2.out.alloc _) (cell_fresh rfl) (by have := HTL.out; omega) (by simp; omega) ?_; intro v9 w9 ho9 hg9; have HO9 := Lib.hid ho9; have HB9 := Lib.hid (below_app (HB2.out.alloc hsz2 _) (HO2.out.alloc _) (by simp; omega) hg9); clear ho9 hg9))
                      go_roundw
                      case rel => exact ⟨q + 1, HQL.out, by go_num, by rw [HAPP.out]; exact HO9.out, HB9.out, by rw [HAPP.out]; exact HNQ2⟩
                      case measure => have := HQL.out; simp [intOf]; omega
              · have HQ : Hid (q = y2.length) := by show _ = _; omega
                have HO3 : Hid (Own wr w.heap.size (.slice sa2 (S ++ y2.take q).length sc2) (flatB (p.take (k + 1)))) := by
                  have h1 := HO2.out
                  show Own _ _ _ _
                  rw [HFT.out]
                  rw [HQ.out, List.take_length] at h1 ⊢
                  exact h1
                have HN3 : Hid (numsOk (flatB (p.take (k + 1)))) := by
                  have h1 := HNQ.out
                  rw [HQ.out, List.take_length] at h1
                  show numsOk _
                  rw [HFT.out]
                  exact h1
                go_wp2
                go_roundw
                case rel => exact ⟨k + 1, HKL.out, by go_num, HO3.out, HB2.out, HN3.out, fun j hj => by
                  rcases Nat.lt_or_eq_of_le (Nat.le_of_lt_succ hj) with h | h
                  · exact HK.out j h
                  · rw [h]; exact HOK.out⟩
                case measure => have := HKL.out; simp [intOf]; omega
    · have HKE : Hid (k = p.length) := by show _ = _; omega
      have HM : Hid (mayP p = true) := by
        have h1 := HK.out
        have h2 := HN.out
        rw [HKE.out] at h1
        rw [HKE.out, List.take_length] at h2
        show _ = _
        unfold mayP
        exact decide_eq_true ⟨h1, h2⟩
      go_wp2
      go_ret
      exact ⟨ret_bool HM.out.symm, HB.out⟩
end Go.Proofs.YtfghjfljomcldaaGreat
namespace Go.Proofs.YtfghjfljomcldaaGreat
open Go.RowKit Go.Maps Go.Shelf
set_option linter.unusedVariables false
set_option linter.unusedSimpArgs false
def BoxN (X : World) (b : Nat) (vp vg : Value) (o : Int) : Prop := X.cell? ⟨b, 0, none⟩ = some vp ∧ X.cell? ⟨b, 1, none⟩ = some vg ∧ X.cell? ⟨b, 2, none⟩ = some (.int .i64 o)
theorem mayP_partsR {P : List Blk} (h : mayP P = true) : (∀ j, j < P.length → blkOk P j) ∧ numsOk (flatB P) := by unfold mayP at h; exact of_decide_eq_true h
theorem mayP_shortR {P : List Blk} (h : mayP P = true) : (flatB P).length ≤ 1024 ∧ True := by
  obtain ⟨h0, h1, h2, h3⟩ := mayP_partsR h
  exact ⟨h3, trivial⟩
theorem box_new (X : World) (vp vg : Value) (o : Int) : ∀ Y, Below (X.heap.size + 1) (X.alloc (.cells #[vp, vg, .int .i64 o] 98)) Y → BoxN Y X.heap.size vp vg o := fun Y hY => by
  have h := (hY.block X.heap.size (by omega)).trans (World.alloc_heap_new _ _)
  refine ⟨?_, ?_, ?_⟩ <;> simp [World.cell?, h]
theorem abs5_var {x : Int} (h : 0 ≤ varC x) : abs5 x = varC x := by
  unfold varC at h ⊢
  unfold abs5
  split
  · split
    · rename_i h1 h2; rw [if_pos h1, if_pos h2] at h; omega
    · rfl
  · rfl

theorem known_mem {S : List Int} (hS : ∀ y ∈ S, 1 ≤ y ∧ y ≤ 65536) {x : Int} (h1 : -9223372036854775808 ≤ x) (h2 : x ≤ 9223372036854775807) : knownB (fun i => decide (i ∈ S)) x = decide (varC x ∈ S) := by
  unfold knownB varB
  rw [Bool.eq_iff_iff]
  simp only [Bool.and_eq_true, decide_eq_true_eq]
  constructor
  · rintro ⟨⟨h3, h4⟩, h5⟩
    have e : abs5 x = varC x := by
      unfold abs5 at h3 ⊢
      unfold varC
      split
      · split
        · rename_i h6 h7; rw [if_pos h6, if_pos h7] at h3; omega
        · rfl
      · rfl
    rwa [e] at h5
  · intro h
    have h3 := hS _ h
    rw [abs5_var (by omega)]
    exact ⟨h3, h⟩
theorem gOk_no {S : List Int} {t : Nat} {g : Gt} (h : (t + g.2.2.length ≤ 200000 ∧ fitsB g.2.1 g.2.2.length = true ∧ (g.2.2.all (fun x => decide (varC x ∈ S))) = true ∧ entB S g.1 = true) → False) : gOk S t g = false := by
  unfold gOk
  rw [← Bool.not_eq_true]
  intro e
  simp only [Bool.and_eq_true, decide_eq_true_eq] at e
  exact h e
set_option maxHeartbeats 6400000 in
set_option maxRecDepth 100000 in
theorem rmay5_any (vp vg : Value) (o : Int) (P : List Blk) (gs : List Gt) (w : World) (HP : IsBlocks w vp P) (HG : IsGates w vg gs) (hp : P.length ≤ 4000000) (hg : gs.length < 1000000) (ho1 : -9223372036854775808 ≤ o) (ho2 : o ≤ 9223372036854775807) :
    Calls Tryz.prog 53 #[.agg #[vp, vg, .int .i64 o]] w fun e w' => e = .returned (.bool (mayN P gs o)) ∧ Below w.heap.size w w' := by
  have HGB := Lib.hid HG.bd
  obtain ⟨pa, pc, rfl, _⟩ := HP.shape
  obtain ⟨ga, gc, rfl, _⟩ := HG.shape
  obtain ⟨W0, hW0⟩ : ∃ W0, w.alloc (.cells #[.slice pa P.length pc, .slice ga gs.length gc, .int .i64 o] 98) = W0 := ⟨_, rfl⟩
  have hb0 : Below w.heap.size w W0 := by rw [← hW0]; exact below_newR _ _
  have hsz0 : w.heap.size ≤ W0.heap.size := hb0.size
  have hbx := box_new w (.slice pa P.length pc) (.slice ga gs.length gc) o
  rw [hW0] at hbx
  have hs1 : W0.heap.size = w.heap.size + 1 := by rw [← hW0]; simp
  have HXC : Hid (∀ X, Below W0.heap.size W0 X → BoxN X w.heap.size (.slice pa P.length pc) (.slice ga gs.length gc) o) := fun X hX => hbx X (hX.mono (by omega))
  have HW0 := Lib.hid hW0
  have HB0 := Lib.hid hb0
  have HPW := Lib.hid (HP.below hb0 (Nat.le_refl _))
  have HGW := Lib.hid (HG.below hb0 (Nat.le_refl _))
  have HPF := Lib.hid (rprefix5_any _ P W0 HPW.out hp)
  clear HP HG hW0 hb0 hbx hs1 hp
  cases hm : mayP P with
  | false =>
    rw [hm] at HPF
    have HR : Hid (mayN P gs o = false) := by show _ = _; unfold mayN namedN; rw [hm]; rfl
    clear hm
    go_enter Tryz.func53, Tryz.ntmps53
    go_upto_region 1 with fail
    rw [HW0.out]
    obtain ⟨p0, p1, p2⟩ := HXC.out W0 (Below.refl _ _)
    go_wp2_with (go_at_call 122; refine HPF.out.mono ?_; rintro e w1 ⟨rfl, hb1⟩)
    go_ret
    exact ⟨ret_bool HR.out.symm, HB0.out.trans (hb1.mono hsz0)⟩
  | true =>
    rw [hm] at HPF
    have HPP := Lib.hid (mayP_partsR hm)
    have HNL : Hid (mayN P gs o = match namedL (flatB P) 0 gs with | some S => decide (varC o ∈ S) | none => false) := by show _ = _; unfold mayN namedN; rw [hm]; rfl
    have hfl := (mayP_shortR hm).1
    have HVA : Hid (∀ X, Below W0.heap.size W0 X → Calls Tryz.prog 124 #[.slice pa P.length pc] X fun e w' => ∃ u, e = .returned u ∧ Own w' X.heap.size u (flatB P) ∧ Below X.heap.size X w') := fun X hX => vars5_any _ P X (HPW.out.below hX (Nat.le_refl _)) (by omega)
    have HFB : Hid (∀ y ∈ flatB P, 1 ≤ y ∧ y ≤ 65536) := HPP.out.2.2.1
    have HMK : Hid (∀ X u B, B ≤ X.heap.size → Own X B u (flatB P) → Calls Tryz.prog 123 #[u] X fun e w' => ∃ b, e = .returned (.slice (some ⟨b, 0, none⟩) nM nM) ∧ Mk w' X.heap.size b (fun x => decide (x ∈ flatB P)) ∧ Below X.heap.size X w') := fun X u B hB h => marks5_any u (flatB P) X (h.ints (by omega) (fun y hy => by have := HFB.out y hy; omega)) (fun y hy => by have := HFB.out y hy; omega)
    clear hm hfl
    go_enter Tryz.func53, Tryz.ntmps53
    go_upto_region 1 with fail
    rw [HW0.out]
    obtain ⟨p0, p1, p2⟩ := HXC.out W0 (Below.refl _ _)
    go_wp2_with (first
      | (go_at_call 122; refine HPF.out.mono ?_; rintro e w1 ⟨rfl, hb1⟩; have HB1 := Lib.hid hb1; clear hb1 p0 p1 p2; obtain ⟨p0, p1, p2⟩ := HXC.out w1 HB1.out)
      | (go_at_call 124; refine (HVA.out w1 HB1.out).mono ?_; rintro e w2 ⟨u, rfl, ho2x, hb2⟩; have HO2 := Lib.hid ho2x; have HB2 := Lib.hid (HB1.out.trans (hb2.mono HB1.out.size)); have HS2 := Lib.hid hb2.size; clear ho2x hb2)
      | (go_at_call 123; refine (HMK.out w2 u _ HS2.out HO2.out).mono ?_; rintro e w3 ⟨b, rfl, hmk, hb3⟩; have HB3 := Lib.hid (HB2.out.trans (hb3.mono HB2.out.size)); have HM3 := Lib.hid (hmk.mono HB2.out.size); clear hmk hb3))
    clear p0 p1 p2
    go_loopw [4, 5] (fun tv i wr => ∃ (k : Nat) (S : List Int) (t : Nat), k ≤ gs.length ∧ i = .int .i64 k ∧ tv = .int .i64 (t : Int) ∧ t ≤ 200000 ∧ Below W0.heap.size W0 wr ∧ Mk wr W0.heap.size b (fun x => decide (x ∈ S)) ∧ namedL (flatB P) 0 gs = namedL S t (gs.drop k) ∧ ∀ y ∈ S, 1 ≤ y ∧ y ≤ 65536) (fun _ i _ => gs.length - (intOf i).toNat)
    case atStart => exact ⟨0, flatB P, 0, Nat.zero_le _, rfl, rfl, by omega, HB3.out, HM3.out, by rw [List.drop_zero], HFB.out⟩
    case round =>
      obtain ⟨k, S, t, hk, rfl, rfl, ht, hbel, hmk, hnl, hS⟩ := hrel
      have HB := Lib.hid hbel
      have HM := Lib.hid hmk
      have HNK := Lib.hid hnl
      have HSB := Lib.hid hS
      have HT := Lib.hid ht
      have hszr := hbel.size
      obtain ⟨p0, p1, p2⟩ := HXC.out wr hbel
      clear hbel hmk hnl hS
      by_cases hlt : k < gs.length
      · obtain ⟨pb, off, u3, rfl, hb, hcx0, hck0, hcu0, HU0, hrg⟩ := HGW.out.at hlt
        have hcx := (HB.out.cell (p := ⟨pb, off + k * 3, none⟩) hb).trans hcx0
        have hck := (HB.out.cell (p := ⟨pb, off + k * 3 + 1, none⟩) hb).trans hck0
        have hcu := (HB.out.cell (p := ⟨pb, off + k * 3 + 2, none⟩) hb).trans hcu0
        have HNC := Lib.hid (namedL_cons (S := S) (t := t) hlt)
        have HBJ := Lib.hid (HGB.out _ (show gs.getD k dG ∈ gs by simp [List.getD, hlt]))
        have hk0 : (0 : Int) ≤ (k : Int) := by omega
        have hk1 : (k : Int) < (gs.length : Int) := by omega
        have hk2 : (k : Int) < 4000001 := by omega
        have HKL := Lib.hid hlt
        clear hcx0 hck0 hcu0 hlt ht hk
        generalize gs.getD k dG = y at *
        obtain ⟨y1, y2, y3⟩ := y
        simp only at hcx hck hcu HU0 hrg HNC HBJ
        have HU := Lib.hid HU0
        obtain ⟨ua, uc, rfl⟩ := HU0.shape
        have hyl : y3.length ≤ 17592186044416 := HBJ.out.2.2.1
        have hs0 : (0 : Int) ≤ (t : Int) + (y3.length : Int) := by omega
        have hs1 : (t : Int) + (y3.length : Int) < 9223372036854775808 := by have := HT.out; omega
        have HYL := Lib.hid hyl
        have hlw : Below wr.heap.size wr (wr.alloc (.cells #[.int .i64 y1, .int .u8 y2, .slice ua y3.length uc] 101)) := below_newR _ _
        have hh : (wr.alloc (.cells #[.int .i64 y1, .int .u8 y2, .slice ua y3.length uc] 101)).heap[wr.heap.size]? = some (.cells #[.int .i64 y1, .int .u8 y2, .slice ua y3.length uc] 101 (0, 0)) := heap_hitR rfl
        have HNX : Hid (mayN P gs o = true → gOk S t (y1, y2, y3) = true) := fun e => by
          rw [HNL.out, HNK.out, HNC.out] at e
          cases hgk : gOk S t (y1, y2, y3) with
          | true => rfl
          | false => rw [hgk] at e; simp at e
        have HNO : Hid (gOk S t (y1, y2, y3) = false → mayN P gs o = false) := fun e => by
          cases hmn : mayN P gs o with
          | false => rfl
          | true => rw [HNX.out hmn] at e; cases e
        clear HU0 hyl HNX
        go_upto_region 9 with fail
        clear hcx hck hcu p0 p1 p2
        have HBG := Lib.hid (HB.out.trans (hlw.mono hszr))
        have HMG := Lib.hid (HM.out.below hlw (Nat.le_refl _))
        have HLW := Lib.hid hlw
        have hsw : wr.heap.size < (wr.alloc (.cells #[.int .i64 y1, .int .u8 y2, .slice ua y3.length uc] 101)).heap.size := by simp
        clear hlw HM
        generalize wr.alloc (.cells #[.int .i64 y1, .int .u8 y2, .slice ua y3.length uc] 101) = wg at *
        obtain ⟨gb, hgb⟩ : ∃ gb, wr.heap.size = gb := ⟨_, rfl⟩
        rw [hgb] at hh hsw ⊢
        clear hgb hszr HLW
        have HXG : Hid (∀ X, Below wg.heap.size wg X → X.cell? ⟨gb, 0, none⟩ = some (.int .i64 y1) ∧ X.cell? ⟨gb, 1, none⟩ = some (.int .u8 y2) ∧ X.cell? ⟨gb, 2, none⟩ = some (.slice ua y3.length uc)) := fun X hX => by
          have h1 := (hX.block gb hsw).trans hh
          exact ⟨block_cellR h1 rfl, block_cellR h1 rfl, block_cellR h1 rfl⟩
        have HVV := Lib.hid (vari5_any y1 wg)
        have HSH := Lib.hid (shape5_any y1 y2 (.slice ua y3.length uc) y3 wg (HU.out.below HBG.out (Nat.le_refl _)))
        clear hh
        obtain ⟨g0, g1, g2⟩ := HXG.out wg (Below.refl _ _)
        cases hv : varB y1 with
        | false =>
          rw [hv] at HVV
          have HR : Hid (mayN P gs o = false) := HNO.out (gOk_no fun h => by have h1 := h.2.2.2; rw [ent_var, hv] at h1; cases h1)
          clear hv
          go_wp2_with (go_at_call 120; refine HVV.out.mono ?_; rintro e w1 ⟨rfl, rfl⟩)
          go_ret
          exact ⟨ret_bool HR.out.symm, HB0.out.trans (HBG.out.mono hsz0)⟩
        | true =>
          have hvb : 1 ≤ y1 ∧ y1 ≤ 65536 := by unfold varB at hv; simpa using hv
          rw [hv] at HVV
          obtain ⟨n, rfl⟩ := Int.eq_ofNat_of_zero_le (show 0 ≤ y1 by omega)
          have hn : n < nM := by rw [nM_eq]; omega
          have hn0 : (0 : Int) ≤ (n : Int) := by omega
          have hn1 : (n : Int) < (nM : Int) := by omega
          have HVB := Lib.hid hvb
          clear hvb
          have m0 := HMG.out.cell hn
          cases hmem : decide ((n : Int) ∈ S) with
          | true =>
            rw [hmem] at m0
            have HR : Hid (mayN P gs o = false) := HNO.out (gOk_no fun h => by have h1 := h.2.2.2; rw [ent_var] at h1; unfold memB at h1; rw [hmem] at h1; simp at h1)
            clear hv hmem
            go_wp2_with (go_at_call 120; refine HVV.out.mono ?_; rintro e w1 ⟨rfl, rfl⟩)
            go_ret
            exact ⟨ret_bool HR.out.symm, HB0.out.trans (HBG.out.mono hsz0)⟩
          | false =>
            rw [hmem] at m0
            have HENT : Hid (entB S (n : Int) = true) := by show _ = _; rw [ent_var, hv]; unfold memB; rw [hmem]; rfl
            have hnn : ¬ (n : Int) ∈ S := by simpa using hmem
            have HNN := Lib.hid hnn
            clear hv hmem hnn
            cases hf : fitsB y2 y3.length with
            | false =>
              rw [hf] at HSH
              have HR : Hid (mayN P gs o = false) := HNO.out (gOk_no fun h => by have h1 := h.2.1; simp only at h1; rw [hf] at h1; cases h1)
              clear hf
              go_wp2_with (first
                | (go_at_call 120; refine HVV.out.mono ?_; rintro e w1 ⟨rfl, rfl⟩)
                | (go_at_call 125; refine HSH.out.mono ?_; rintro e w5 ⟨rfl, hb5⟩; have HB5 := Lib.hid hb5; clear hb5))
              go_ret
              exact ⟨ret_bool HR.out.symm, HB0.out.trans ((HBG.out.trans (HB5.out.mono HBG.out.size)).mono hsz0)⟩
            | true =>
              rw [hf] at HSH
              have HF := Lib.hid hf
              clear hf
              by_cases hbig : 200000 < t + y3.length
              · have hd : decide ((200000 : Int) < (t : Int) + (y3.length : Int)) = true := by simp; omega
                have HR : Hid (mayN P gs o = false) := HNO.out (gOk_no fun h => by have h1 := h.1; simp only at h1; omega)
                clear hbig
                go_wp2_with (first
                  | (go_at_call 120; refine HVV.out.mono ?_; rintro e w1 ⟨rfl, rfl⟩)
                  | (go_at_call 125; refine HSH.out.mono ?_; rintro e w5 ⟨rfl, hb5⟩; have HB5 := Lib.hid hb5; clear hb5))
                go_ret
                exact ⟨ret_bool HR.out.symm, HB0.out.trans ((HBG.out.trans (HB5.out.mono HBG.out.size)).mono hsz0)⟩
              · have hd : decide ((200000 : Int) < (t : Int) + (y3.length : Int)) = false := by simp; omega
                have HTT : Hid (t + y3.length ≤ 200000) := by show _ ≤ _; omega
                clear hbig
                go_wp2_with (first
                  | (go_at_call 120; refine HVV.out.mono ?_; rintro e w1 ⟨rfl, rfl⟩)
                  | (go_at_call 125; refine HSH.out.mono ?_; rintro e w5 ⟨rfl, hb5⟩; have HB5 := Lib.hid hb5; clear hb5))
                clear hd m0 g0 g1 g2
                go_loopw [7] (fun i2 w2 => ∃ q : Nat, q ≤ y3.length ∧ i2 = .int .i64 q ∧ Below wg.heap.size wg w2 ∧ Hid ((y3.take q).all (fun x => decide (varC x ∈ S)) = true)) (fun i2 _ => y3.length - (intOf i2).toNat)
                case atStart => exact ⟨0, Nat.zero_le _, rfl, HB5.out, rfl⟩
                case round =>
                  obtain ⟨q, hq, rfl, hbel, HAL⟩ := hrel
                  have HB7 := Lib.hid hbel
                  obtain ⟨g0, g1, g2⟩ := HXG.out _ hbel
                  have HBW := Lib.hid (HBG.out.trans (hbel.mono HBG.out.size))
                  have HM7 := Lib.hid (HMG.out.below hbel (Nat.le_refl _))
                  clear hbel
                  by_cases hlt : q < y3.length
                  · obtain ⟨b2, off2, rfl, hb2, hc0⟩ := HU.out.cellY hlt
                    have hc := (HBW.out.cell (p := ⟨b2, off2 + q, none⟩) hb2).trans hc0
                    have HTK : Hid (y3.take (q + 1) = y3.take q ++ [y3.getD q 0]) := by show _ = _; rw [List.take_succ_eq_append_getElem hlt]; simp [List.getD, hlt]
                    have hxm : y3.getD q 0 ∈ y3 := by simp [List.getD, hlt]
                    have HXM := Lib.hid hxm
                    have hxr := HBJ.out.2.2.2 _ hxm
                    have HQL := Lib.hid hlt
                    have hne2 : ¬ y3 = [] := by intro e; rw [e] at hlt; simp at hlt
                    have hq0 : (0 : Int) ≤ (q : Int) := by omega
                    have hq1 : (q : Int) < (y3.length : Int) := by omega
                    have hq2 : (q : Int) < 17592186044416 := by have := HYL.out; omega
                    clear hc0 hlt hxm
                    generalize y3.getD q 0 = x at *
                    have HKN := Lib.hid (known5_any W0.heap.size b _ x _ HM7.out hxr.1 hxr.2)
                    rw [known_mem HSB.out hxr.1 hxr.2] at HKN
                    clear hxr
                    cases hvx : decide (varC x ∈ S) with
                    | true =>
                      rw [hvx] at HKN
                      have HAL2 : Hid ((y3.take (q + 1)).all (fun x => decide (varC x ∈ S)) = true) := by show _ = _; rw [HTK.out, List.all_append, HAL.out]; simpa using hvx
                      clear hvx
                      go_wp2_with (go_at_call 126; refine HKN.out.mono ?_; rintro e w1 ⟨rfl, rfl⟩)
                      go_roundw
                      case rel => exact ⟨q + 1, HQL.out, by go_num, HB7.out, HAL2⟩
                      case measure => have := HQL.out; simp [intOf]; omega
                    | false =>
                      rw [hvx] at HKN
                      have HR : Hid (mayN P gs o = false) := HNO.out (gOk_no fun h => by have h1 := List.all_eq_true.1 h.2.2.1 x HXM.out; rw [hvx] at h1; cases h1)
                      clear hvx
                      go_wp2_with (go_at_call 126; refine HKN.out.mono ?_; rintro e w1 ⟨rfl, rfl⟩)
                      go_ret
                      exact ⟨ret_bool HR.out.symm, HB0.out.trans (HBW.out.mono hsz0)⟩
                  · have HQ : Hid (q = y3.length) := by show _ = _; omega
                    have HGK : Hid (gOk S t ((n : Int), y2, y3) = true) := by
                      have h1 := HAL.out
                      rw [HQ.out, List.take_length] at h1
                      show _ = _
                      unfold gOk
                      simp only [Bool.and_eq_true, decide_eq_true_eq]
                      exact ⟨HTT.out, HF.out, h1, HENT.out⟩
                    have m0 := HM7.out.cell hn
                    have m1 := HM7.out.frozen n
                    have HM8 := Lib.hid (HM7.out.set n hn true)
                    have HB8 := Lib.hid (HBW.out.setCell (p := ⟨b, n, none⟩) (u := .bool true) HM7.out.lt.1)
                    go_wp2
                    go_roundw
                    case rel => exact ⟨k + 1, S ++ [(n : Int)], t + y3.length, HKL.out, by go_num, by go_num, HTT.out, HB8.out, HM8.out.congr (fun i _ _ => by
                      unfold updB
                      by_cases e : i = (n : Int)
                      · subst e; simp
                      · rw [if_neg e]; simp [e]), by rw [HNK.out, HNC.out, if_pos HGK.out], fun z hz => by
                      rcases List.mem_append.1 hz with h | h
                      · exact HSB.out z h
                      · rw [List.mem_singleton] at h; subst h; exact HVB.out⟩
                    case measure => have := HKL.out; simp [intOf]; omega
      · have HKE : Hid (k = gs.length) := by show _ = _; omega
        have HR : Hid (mayN P gs o = decide (varC o ∈ S)) := by
          show _ = _
          rw [HNL.out, HNK.out, HKE.out, List.drop_length]
          rfl
        have HKN := Lib.hid (known5_any W0.heap.size b _ o wr HM.out ho1 ho2)
        rw [known_mem HSB.out ho1 ho2] at HKN
        go_wp2_with (go_at_call 126; refine HKN.out.mono ?_; rintro e w1 ⟨rfl, rfl⟩)
        go_ret
        exact ⟨ret_bool HR.out.symm, HB0.out.trans (HB.out.mono hsz0)⟩
end Go.Proofs.YtfghjfljomcldaaGreat
