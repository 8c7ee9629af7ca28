/- lits.Within. -/
import Derived.Test.YtnedpngadfkmiaaDoorNorm
namespace Go.Proofs.YtnedpngadfkmiaaDoor
open Go.RowKit Go.Shelf
set_option linter.unusedVariables false

set_option maxHeartbeats 400000 in
theorem winc_any (x t : Int) (w : World) (h1 : -9223372036854775808 ≤ x) (h2 : x ≤ 9223372036854775807) (h3 : -9223372036854775808 ≤ t) (h4 : t ≤ 9223372036854775807) :
    Calls Tryd.prog 93 #[.int .i64 x, .int .i64 t] w fun e w' => e = .returned (.int .i64 (cmpI (varOf x) t)) ∧ w = w' := by
  have hv := varOf_bd x
  have hc := cmpi_any (varOf x) t w (by omega) (by omega) h3 h4
  generalize cmpI (varOf x) t = z at *
  go_enter Tryd.func93, Tryd.ntmps93
  go_wp2_with (first | (go_at_call 22; refine (var_any _ _ (by omega) (by omega)).mono ?_; rintro e w' ⟨rfl, rfl⟩) | (go_at_call 94; refine hc.mono ?_; rintro e w' ⟨rfl, rfl⟩))
  go_ret
  exact ⟨rfl, rfl⟩
theorem winc_enters (args : Array Value) (w : World) : (callFunc 93 args).run Tryd.prog w = .ok (.enter 93 args) w := enters_of Tryd.func93 (by kernel_rfl) rfl args w

theorem mayFrom_pair {p : Int} {l : List Int} (h : mayFrom p l = true) : l.Pairwise (fun x y => varOf x < varOf y) := by
  induction l generalizing p with
  | nil => exact List.Pairwise.nil
  | cons x r ih =>
    simp only [mayFrom, Bool.and_eq_true] at h
    exact List.Pairwise.cons (fun y hy => (mayFrom_mem (varOf_bd x).1 h.2 y hy).1) (ih h.2)
theorem mayB_mono {l : List Int} (h : mayB l = true) (i j : Nat) (hij : i < j) (hj : j < l.length) : varOf (l.getD i 0) < varOf (l.getD j 0) := by
  have := List.pairwise_iff_getElem.1 (mayFrom_pair h) i j (by omega) hj hij
  simpa [List.getD, hj, show i < l.length by omega] using this

def BsPost (l : List Int) (t : Int) (w : World) (e : Ending) (w' : World) : Prop :=
  ∃ (i : Nat) (f : Bool), e = .returned (.tuple #[.int .i64 i, .bool f]) ∧ w = w' ∧ (f = true → i < l.length ∧ varOf (l.getD i 0) = t) ∧ (f = false → ∀ y ∈ l, varOf y ≠ t)

set_option maxHeartbeats 800000 in
set_option maxRecDepth 100000 in
theorem bs_any (v : Value) (l : List Int) (t : Int) (w : World) (H : IsInts w v l) (hm : mayB l = true) (h3 : -9223372036854775808 ≤ t) (h4 : t ≤ 9223372036854775807) :
    Calls Tryd.prog 92 #[v, .int .i64 t, .func (.func 93) #[] #[]] w (BsPost l t w) := by
  obtain ⟨a, cap, rfl, _, _, hl, h64, b, off, ha, hc⟩ := H
  have eg := winc_enters
  have HM := Lib.hid (mayB_mono hm)
  go_enter Tryd.func92, Tryd.ntmps92
  go_wp2
  go_loop [9, 10] (fun si sj => ∃ i j : Nat, i ≤ j ∧ j ≤ l.length ∧ si = .int .i64 i ∧ sj = .int .i64 j ∧ (∀ k, k < i → varOf (l.getD k 0) < t) ∧ (∀ k, j ≤ k → k < l.length → t ≤ varOf (l.getD k 0))) (fun si sj => (intOf sj).toNat - (intOf si).toNat)
  case atStart => exact ⟨0, l.length, Nat.zero_le _, Nat.le_refl _, rfl, rfl, by omega, by omega⟩
  case round =>
    obtain ⟨i, j, hij, hj, rfl, rfl, hlo, hhi⟩ := hrel
    have HLO := Lib.hid hlo
    have HHI := Lib.hid hhi
    clear hlo hhi
    by_cases hlt : i < j
    · obtain ⟨rfl, hb⟩ := ha (by intro h; simp [h] at hj; omega)
      have hy := hc ((i + j) / 2) (by omega)
      have hy1 := (h64.at ((i + j) / 2) (by omega)).1
      have hy2 := (h64.at ((i + j) / 2) (by omega)).2
      have HX : Hid (∃ x, x = l.getD ((i + j) / 2) 0) := ⟨_, rfl⟩
      obtain ⟨x, hX⟩ := HX.out
      rw [← hX] at hy hy1 hy2
      have HXX := Lib.hid hX
      clear hX HX
      have hcl := winc_any x t w hy1 hy2 h3 h4
      have hzb := cmpI_bd (varOf x) t
      by_cases hc1 : varOf x < t
      · have hz : cmpI (varOf x) t < 0 := by unfold cmpI; rw [if_pos hc1]; omega
        have HN : Hid (∀ k, k < (i + j) / 2 + 1 → varOf (l.getD k 0) < t) := by
          intro k hk
          by_cases e : k = (i + j) / 2
          · rw [e, ← HXX.out]; exact hc1
          · have := HM.out k ((i + j) / 2) (by omega) (by omega)
            rw [← HXX.out] at this
            omega
        clear hc1
        generalize cmpI (varOf x) t = z at *
        have HC := Lib.hid hc
        clear hc
        go_wp2_with fail
        refine hcl.mono ?_
        rintro e w' ⟨rfl, rfl⟩
        go_wp2
        go_round
        case rel => exact ⟨(i + j) / 2 + 1, j, by omega, hj, by go_num, rfl, HN.out, HHI.out⟩
        case measure => simp [intOf]; omega
      · have hz : ¬ cmpI (varOf x) t < 0 := by unfold cmpI; rw [if_neg hc1]; split <;> omega
        have HN : Hid (∀ k, (i + j) / 2 ≤ k → k < l.length → t ≤ varOf (l.getD k 0)) := by
          intro k hk hk2
          by_cases e : k = (i + j) / 2
          · rw [e, ← HXX.out]; omega
          · have := HM.out ((i + j) / 2) k (by omega) (by omega)
            rw [← HXX.out] at this
            omega
        clear hc1
        generalize cmpI (varOf x) t = z at *
        have HC := Lib.hid hc
        clear hc
        go_wp2_with fail
        refine hcl.mono ?_
        rintro e w' ⟨rfl, rfl⟩
        go_wp2
        go_round
        case rel => exact ⟨i, (i + j) / 2, by omega, by omega, rfl, by go_num, HLO.out, HN.out⟩
        case measure => simp [intOf]; omega
    · have hej : j = i := by omega
      subst hej
      have HC := Lib.hid hc
      clear hc
      by_cases hin : j < l.length
      · obtain ⟨rfl, hb⟩ := ha (by intro h; simp [h] at hin)
        have hy := HC.out j hin
        have hy1 := (h64.at j hin).1
        have hy2 := (h64.at j hin).2
        have HX : Hid (∃ x, x = l.getD j 0) := ⟨_, rfl⟩
        obtain ⟨x, hX⟩ := HX.out
        rw [← hX] at hy hy1 hy2
        have HXX := Lib.hid hX
        clear hX HX
        have hcl := winc_any x t w hy1 hy2 h3 h4
        have hge : t ≤ varOf x := by rw [HXX.out]; exact HHI.out j (Nat.le_refl _) hin
        by_cases he : varOf x = t
        · have hz : cmpI (varOf x) t = 0 := by unfold cmpI; rw [if_neg (by omega), if_neg (by omega)]
          rw [hz] at hcl
          have HE : Hid (varOf (l.getD j 0) = t) := by show _ = _; rw [← HXX.out]; exact he
          clear he hz
          go_wp2_with fail
          refine hcl.mono ?_
          rintro e w' ⟨rfl, rfl⟩
          go_wp2
          go_ret2
          exact ⟨j, true, rfl, rfl, fun _ => ⟨hin, HE.out⟩, (fun h => by cases h)⟩
        · have hz : cmpI (varOf x) t = 1 := by unfold cmpI; rw [if_neg (by omega), if_pos (by omega)]
          rw [hz] at hcl
          have HE : Hid (∀ y ∈ l, varOf y ≠ t) := by
            intro y hy3 e
            obtain ⟨k, hk, ek⟩ := List.getElem_of_mem hy3
            have ek' : l.getD k 0 = y := by simp [List.getD, hk, ek]
            rcases Nat.lt_trichotomy k j with h | h | h
            · have := HLO.out k h; rw [ek', e] at this; omega
            · subst h; rw [ek'] at HXX; exact he (by rw [HXX.out]; exact e)
            · have := HM.out j k h hk; rw [ek', e, ← HXX.out] at this; omega
          clear he hz
          go_wp2_with fail
          refine hcl.mono ?_
          rintro e w' ⟨rfl, rfl⟩
          go_wp2
          go_ret2
          exact ⟨j, false, rfl, rfl, (fun h => by cases h), fun _ => HE.out⟩
      · have HE : Hid (∀ y ∈ l, varOf y ≠ t) := by
          intro y hy3 e
          obtain ⟨k, hk, ek⟩ := List.getElem_of_mem hy3
          have ek' : l.getD k 0 = y := by simp [List.getD, hk, ek]
          have := HLO.out k (by omega)
          rw [ek', e] at this; omega
        go_wp2
        go_ret2
        exact ⟨j, false, rfl, rfl, (fun h => by cases h), fun _ => HE.out⟩

/-- A row of bools of the call's own. -/
def OwnB (w : World) (B : Nat) (v : Value) (xs : List Bool) : Prop := w.ownsRow B 4 1 v xs.length (xs.map Value.bool)
theorem info_bool : (Tryd.prog.info? 4).map (fun i => (i.zero, i.size, i.bytes)) = some (some (.bool false), 1, 1) := by kernel_rfl

theorem wpList_mkBools {w : World} {ops : Array Oper} {rest : List Oper} {o : Oper} {a : Act} {Q : Exit → Act → World → Prop} (hgd : o.guard = none) (l c : Operand)
    (hop : o.op = Op.makeSlice 82 l c) (n : Nat) (hl : a.eval l = .int .i64 (n : Int)) (hc : a.eval c = .int .i64 (n : Int)) (hn : n ≤ 17592186044416)
    (h : ∀ w', OwnB w' w.heap.size (.slice (some ⟨w.heap.size, 0, none⟩) n n) (List.replicate n false) → w.grownBy w' none → wpList Tryd.prog ops Q rest (a.put o.dst (.slice (some ⟨w.heap.size, 0, none⟩) n n)) w') : wpList Tryd.prog ops Q (o :: rest) a w := by
  obtain ⟨i0, hi, hz0, hz1, hz2⟩ := info_parts info_bool
  refine wpList_make_full _ hgd l c 82 hop w.heap.size 4 i0 (.bool false) 1 Tryd.underlying82 hi hz0 hz1 _ _ _ _ n hl hc rfl rfl (by rw [hz2]; omega) (by unfold maxLen; omega) (Nat.le_refl _) ?_
  intro w1 hown hg
  refine h w1 ?_ hg
  unfold OwnB
  simp only [List.length_replicate]
  have e : (madeCells (Value.bool false).cells (n * 1)).toList = (List.replicate n false).map Value.bool := by
    rw [Nat.mul_one, show (Value.bool false).cells = #[.bool false] from rfl, toList_madeCells_one]; simp
  rw [e] at hown
  exact hown

theorem OwnB.cell {w : World} {B g n cap : Nat} {xs : List Bool} (h : OwnB w B (.slice (some ⟨g, 0, none⟩) n cap) xs) (j : Nat) (hj : j < xs.length) : w.cell? ⟨g, j, none⟩ = some (.bool (xs.getD j false)) := by
  have hn : n = xs.length := by
    rcases h.2 with ⟨e, _⟩ | ⟨g', cap', cur, e, _⟩
    · cases e
    · injection e
  subst hn
  rw [World.ownsRow.cellAt (show w.ownsRow B 4 1 _ xs.length (xs.map Value.bool) from h) j (by omega)]
  simp [hj, List.getD]
theorem OwnB.frozen {w : World} {B g n cap : Nat} {xs : List Bool} (h : OwnB w B (.slice (some ⟨g, 0, none⟩) n cap) xs) (j : Nat) : w.frozen? ⟨g, j, none⟩ = false := by
  have hn : n = xs.length := by
    rcases h.2 with ⟨e, _⟩ | ⟨g', cap', cur, e, _⟩
    · cases e
    · injection e
  subst hn
  exact World.ownsRow.frozenAt (show w.ownsRow B 4 1 _ xs.length (xs.map Value.bool) from h) j
theorem OwnB.store {w : World} {B g n cap : Nat} {xs : List Bool} (h : OwnB w B (.slice (some ⟨g, 0, none⟩) n cap) xs) (j : Nat) (y : Bool) : OwnB (w.setCell ⟨g, j, none⟩ (.bool y)) B (.slice (some ⟨g, 0, none⟩) n cap) (xs.set j y) := by
  have hn : n = xs.length := by
    rcases h.2 with ⟨e, _⟩ | ⟨g', cap', cur, e, _⟩
    · cases e
    · injection e
  subst hn
  have := (World.ownsRow.stored (show w.ownsRow B 4 1 _ xs.length (xs.map Value.bool) from h) j (.bool y)).1
  unfold OwnB
  rw [List.length_set, List.map_set]
  exact this
theorem OwnB.lt {w : World} {B : Nat} {v : Value} {xs : List Bool} (h : OwnB w B v xs) : ∀ k, v.ownBlock = some k → B ≤ k ∧ k < w.heap.size := World.ownsRow.lt h

theorem mayB_inj {l : List Int} (h : mayB l = true) {i j : Nat} (hi : i < l.length) (hj : j < l.length) (e : varOf (l.getD i 0) = varOf (l.getD j 0)) : i = j := by
  rcases Nat.lt_trichotomy i j with h1 | h1 | h1
  · have := mayB_mono h i j h1 hj; omega
  · exact h1
  · have := mayB_mono h j i h1 hi; omega

set_option maxHeartbeats 1600000 in
set_option maxRecDepth 100000 in
theorem within_any (v u : Value) (l m : List Int) (w : World) (H : IsInts w v l) (K : IsInts w u m) :
    Calls Tryd.prog 32 #[v, u] w (RetOwn w (withinL l m)) := by
  have H0 := H
  obtain ⟨a, cap, rfl, _, _, hl, h64, b, off, ha, hc⟩ := H
  obtain ⟨a2, cap2, rfl, _, _, hl2, h642, b2, off2, ha2, hc2⟩ := K
  by_cases hm : mayB l = true
  · have HR : Hid (withinL l m = l.filter (inB m)) := by show _ = _; unfold withinL; rw [if_pos hm]
    go_enter Tryd.func32, Tryd.ntmps32
    go_wp2_with (first | (go_at_call 24; refine (may_v _ l _ H0).mono ?_; rintro e w1 ⟨rfl, rfl⟩) | (at_make; refine wpList_mkBools rfl _ _ rfl l.length rfl rfl hl ?_; intro w1 hown1 hg1))
    have hbel1 := (Below.refl w.heap.size w).grown hg1 (Nat.le_refl _) (fun k hk => by cases hk)
    clear hg1
    go_loopw [21] (fun i wr => ∃ (k : Nat) (bs : List Bool), k ≤ m.length ∧ i = .int .i64 k ∧ OwnB wr w.heap.size (.slice (some ⟨w.heap.size, 0, none⟩) l.length l.length) bs ∧ Below w.heap.size w wr ∧ bs.length = l.length ∧ ∀ i, i < l.length → (bs.getD i false = true ↔ varOf (l.getD i 0) ∈ m.take k)) (fun i _ => m.length - (intOf i).toNat)
    case atStart => exact ⟨0, List.replicate l.length false, Nat.zero_le _, rfl, hown1, hbel1, by simp, fun i hi => by simp [List.getD, hi]⟩
    case round =>
      obtain ⟨k, bs, hk, rfl, hown, hbel, hlen, hbs⟩ := hrel
      have HB := Lib.hid hbs
      have HLN := Lib.hid hlen
      clear hbs hlen
      by_cases hlt : k < m.length
      · obtain ⟨rfl, hb⟩ := ha2 (by intro h; simp [h] at hlt)
        have hy := (hbel.cell (p := ⟨b2, off2 + k, none⟩) hb).trans (hc2 k hlt)
        have hy1 := (h642.at k hlt).1
        have hy2 := (h642.at k hlt).2
        have htk : m.take (k + 1) = m.take k ++ [m.getD k 0] := by rw [List.take_succ_eq_append_getElem hlt]; simp [List.getD, hlt]
        have HT := Lib.hid htk
        have HC := Lib.hid hc
        have HC2 := Lib.hid hc2
        clear hc hc2 htk
        generalize m.getD k 0 = y at *
        have hbsc := bs_any _ l y wr (H0.below hbel (Nat.le_refl _)) hm hy1 hy2
        go_wp2_with fail
        refine hbsc.mono ?_
        rintro e w' ⟨i, f, rfl, rfl, hf1, hf2⟩
        cases f with
        | true =>
          obtain ⟨hi, hiv⟩ := hf1 rfl
          have HV := Lib.hid hiv
          have hcell := hown.cell i (by rw [HLN.out]; exact hi)
          have hfz := hown.frozen i
          have hown2 := hown.store i true
          clear hf1 hf2 hiv
          go_wp2
          go_roundw
          case rel =>
            refine ⟨k + 1, bs.set i true, by omega, by go_num, hown2, hbel.setCell (by simp) _, by rw [List.length_set]; exact HLN.out, fun i' hi' => ?_⟩
            rw [HT.out]
            by_cases e : i' = i
            · subst e
              have : (bs.set i' true).getD i' false = true := by simp [List.getD, HLN.out, hi']
              exact ⟨fun _ => List.mem_append.2 (Or.inr (List.mem_singleton.2 HV.out)), fun _ => this⟩
            · have h1 : (bs.set i true).getD i' false = bs.getD i' false := by simp [List.getD, Ne.symm e]
              rw [h1, HB.out i' hi', List.mem_append, List.mem_singleton]
              constructor
              · exact Or.inl
              · rintro (h | h)
                · exact h
                · exact absurd (mayB_inj hm hi' hi (h.trans HV.out.symm)) e
          case measure => simp [intOf]; omega
        | false =>
          have HF := Lib.hid (hf2 rfl)
          clear hf1 hf2
          go_wp2
          go_roundw
          case rel =>
            refine ⟨k + 1, bs, by omega, by go_num, hown, hbel, HLN.out, fun i' hi' => ?_⟩
            rw [HT.out, HB.out i' hi', List.mem_append, List.mem_singleton]
            constructor
            · exact Or.inl
            · rintro (h | h)
              · exact h
              · exact absurd h (HF.out _ (getD_mem hi'))
          case measure => simp [intOf]; omega
      · have HB2 : Hid (∀ i, i < l.length → bs.getD i false = inB m (l.getD i 0)) := by
          intro i hi
          have := HB.out i hi
          rw [List.take_of_length_le (by omega)] at this
          unfold inB memB
          rw [Bool.eq_iff_iff, this]; simp
        have hblk : w.heap.size < wr.heap.size := (hown.lt w.heap.size rfl).2
        have hcb : ∀ i, i < l.length → wr.cell? ⟨w.heap.size, i, none⟩ = some (.bool (inB m (l.getD i 0))) := fun i hi => by rw [hown.cell i (by rw [HLN.out]; exact hi), HB2.out i hi]
        have hcw : ∀ j, j < l.length → wr.cell? ⟨b, off + j, none⟩ = some (.int .i64 (l.getD j 0)) := fun j hj => (hbel.cell (p := ⟨b, off + j, none⟩) (ha (by intro h; simp [h] at hj)).2).trans (hc j hj)
        have haw : l ≠ [] → a = some ⟨b, off, none⟩ ∧ b < wr.heap.size := fun h => ⟨(ha h).1, Nat.lt_of_lt_of_le (ha h).2 hbel.size⟩
        have HCB := Lib.hid hcb
        have HCW := Lib.hid hcw
        have HBEL := Lib.hid hbel
        have hszw := hbel.size
        clear hcb hcw hbel hown ha hc hc2 ha2 HB hown1 hbel1
        generalize wr = wz at *
        go_wp2
        go_loopw [10, 38] (fun out i wr => ∃ k : Nat, k ≤ l.length ∧ i = .int .i64 k ∧ Own wr wz.heap.size out ((l.take k).filter (inB m)) ∧ Below wz.heap.size wz wr) (fun _ i _ => l.length - (intOf i).toNat)
        case atStart => exact ⟨0, Nat.zero_le _, rfl, Own.nil _ _, Below.refl _ _⟩
        case round =>
          obtain ⟨j, hj, rfl, hown, hbel⟩ := hrel
          by_cases hlt2 : j < l.length
          · obtain ⟨rfl, hb⟩ := haw (by intro h; simp [h] at hlt2)
            have hy := (hbel.cell (p := ⟨b, off + j, none⟩) hb).trans (HCW.out j hlt2)
            have hz := (hbel.cell (p := ⟨w.heap.size, j, none⟩) hblk).trans (HCB.out j hlt2)
            have hy1 := (h64.at j hlt2).1
            have hy2 := (h64.at j hlt2).2
            have hle := filter_take_le (inB m) l j hj
            have hsz := hbel.size
            by_cases hp : inB m (l.getD j 0) = true
            · have HT := Lib.hid (filter_take_hit hlt2 hp)
              rw [hp] at hz
              clear hp
              generalize l.getD j 0 = y at *
              go_wp2_with (at_builtin; refine wpList_app1 rfl _ _ rfl wz.heap.size _ _ y wr.heap.size rfl rfl (hown.alloc _) (by simp) (by omega) (by simp; omega) ?_; intro v' w' hown' hg')
              go_roundw
              case rel => exact ⟨j + 1, by omega, by go_num, by rw [HT.out]; exact hown', below_app (hbel.alloc (by omega) _) (hown.alloc _) (by simp; omega) hg'⟩
              case measure => simp [intOf]; omega
            · have hp' : inB m (l.getD j 0) = false := by simpa using hp
              have HT := Lib.hid (filter_take_miss hlt2 hp')
              rw [hp'] at hz
              clear hp hp'
              generalize l.getD j 0 = y at *
              go_wp2
              go_roundw
              case rel => exact ⟨j + 1, by omega, by go_num, by rw [HT.out]; exact hown, hbel⟩
              case measure => simp [intOf]; omega
          · have hown2 := hown
            rw [List.take_of_length_le (by omega), ← HR.out] at hown2
            clear hown
            go_wp2
            go_ret
            exact ⟨_, rfl, hown2.mono hszw, HBEL.out.trans (hbel.mono hszw)⟩
  · have hm' : mayB l = false := by simpa using hm
    have HR : Hid (withinL l m = []) := by show _ = _; unfold withinL; rw [if_neg hm]
    clear hm
    go_enter Tryd.func32, Tryd.ntmps32
    go_wp2_with (go_at_call 24; refine (may_v _ l _ H0).mono ?_; rintro e w1 ⟨rfl, rfl⟩)
    go_ret
    exact ⟨_, rfl, by rw [HR.out]; exact Own.nil _ _, Below.refl _ _⟩

end Go.Proofs.YtnedpngadfkmiaaDoor
