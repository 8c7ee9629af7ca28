/- The reference's Joined. -/
import Derived.Test.YtmiijgjpkkmoaaaGreatPxRowB
import Derived.Test.YtmiijgjpkkmoaaaGreatPxClose
import Derived.Deep.RegionLaw
import Derived.IntWalk
namespace Go.Proofs.YtmiijgjpkkmoaaaGreat
open Go.RowKit
set_option linter.unusedVariables false
set_option linter.unusedSimpArgs false

theorem joinStep_full {out : List Blk} {b : Blk} (h : ∀ x ∈ out, x.2 ≠ []) : ∀ x ∈ joinStep out b, x.2 ≠ [] := by
  unfold joinStep
  by_cases hb : b.2 = []
  · rw [if_pos hb]; exact h
  · rw [if_neg hb]
    split
    · rename_i l hl
      have hl' : l ∈ out := List.mem_of_getLast? hl
      split
      · intro x hx
        rcases List.mem_append.1 hx with hx | hx
        · exact h x (List.dropLast_subset _ hx)
        · rw [List.mem_singleton] at hx
          subst hx
          exact fun e => h l hl' (List.append_eq_nil_iff.1 e).1
      · intro x hx
        rcases List.mem_append.1 hx with hx | hx
        · exact h x hx
        · rw [List.mem_singleton] at hx; subst hx; exact hb
    · intro x hx
      rcases List.mem_append.1 hx with hx | hx
      · exact h x hx
      · rw [List.mem_singleton] at hx; subst hx; exact hb
theorem joinL_full (p : List Blk) : ∀ x ∈ joinL p, x.2 ≠ [] := by
  have key : ∀ (p out : List Blk), (∀ x ∈ out, x.2 ≠ []) → ∀ x ∈ p.foldl joinStep out, x.2 ≠ [] := by
    intro p
    induction p with
    | nil => intro out h; exact h
    | cons b r ih => intro out h; exact ih _ (joinStep_full h)
  exact key p [] (by simp)

/-- The last block's list replaced by a new one. -/
theorem RowB.swap {w0 w w1 : World} {B g cap n : Nat} {u u' : Value} {t : List Trp} {e : Bool} {l l' : List Int} (h : RowB w0 w B (.slice (some ⟨g, 0, none⟩) n cap) (t ++ [(e, u, l)])) (hB : B ≤ w.heap.size)
    (hb : Below w.heap.size w w1) (hu : Own w1 w.heap.size u' l') : RowB w0 (w1.setCell ⟨g, t.length * 2 + 1, none⟩ u') B (.slice (some ⟨g, 0, none⟩) n cap) (t ++ [(e, u', l')]) := by
  have h1 := h.below' hb (Nat.le_refl _)
  have hset := Kept.setCell w1 ⟨g, t.length * 2 + 1, none⟩ u'
  have hgl := rowB_lt h.row g rfl
  have hu'g : u'.ownBlock ≠ some g := fun e1 => by have := (hu.lt g e1).1; omega
  refine ⟨h1.below.setCell (p := ⟨g, t.length * 2 + 1, none⟩) (Nat.le_trans h.base hgl.1) u', h.base, ?_, fun x hxm => ?_⟩
  · rcases h1.row with ⟨h1, ⟨h2, _⟩ | ⟨g1, cap1, cur, ev, hBg, hg1, hnc, hcm, hcs, htk⟩⟩
    · cases h2
    · injection ev with ev1 ev2 ev3
      injection ev1 with ev1
      injection ev1 with ev1
      subst ev1; subst ev3
      refine ⟨by rw [cellsT_len], .inr ⟨g, cap, cur.setIfInBounds (t.length * 2 + 1) u', by rw [ev2]; simp, hBg, ?_, by have := hnc; simp only [List.length_append, List.length_singleton] at this ⊢; omega, hcm, by simpa using hcs, ?_⟩⟩
      · simp [World.setCell, Array.getElem?_modify, hg1]
      · have e1 : (t ++ [(e, u', l')]).length * 2 = (t ++ [(e, u, l)]).length * 2 := by simp
        rw [e1, Array.toList_setIfInBounds, List.take_set, htk, cellsT_app, cellsT_app]
        have e2 : cellsT [(e, u, l)] = [.bool e, u] := by simp [cellsT]
        have e3 : cellsT [(e, u', l')] = [.bool e, u'] := by simp [cellsT]
        rw [e2, e3, ← cellsT_len]
        exact set_last _ _ _ _
  · rcases List.mem_append.1 hxm with hxm | hxm
    · rcases h1.elems x (List.mem_append_left _ hxm) with k | k
      · exact .inl (hset.row k (fun j hj e1 => rowB_ne h1.row k j hj (congrArg some e1.symm)))
      · exact .inr k
    · rw [List.mem_singleton] at hxm
      subst hxm
      exact .inl ((Own.mono hu hB |> fun k => hset.row k (fun j hj e1 => hu'g (by rw [hj, e1]))))
theorem ElemB.ints {w0 w : World} {B : Nat} {u : Value} {l : List Int} (h : ElemB w0 w B u l) (hb : Below w0.heap.size w0 w) (hl : l.length ≤ 17592186044416) (h64 : In64 l) : IsInts w u l := h.elim (fun k => k.ints hl h64) (fun k => k.below hb (Nat.le_refl _))

theorem RowB.cells {w0 w : World} {B : Nat} {v : Value} {t : List Trp} (h : RowB w0 w B v t) {j : Nat} (hj : j < t.length) : ∃ g cap, v = .slice (some ⟨g, 0, none⟩) t.length cap ∧ B ≤ g ∧ g < w.heap.size ∧
    w.cell? ⟨g, j * 2, none⟩ = some (.bool (t.getD j (false, .slice none 0 0, [])).1) ∧ w.cell? ⟨g, j * 2 + 1, none⟩ = some (t.getD j (false, .slice none 0 0, [])).2.1 ∧ (∀ o, w.frozen? ⟨g, o, none⟩ = false) := by
  rcases h.row.2 with ⟨rfl, h2⟩ | ⟨g, cap, cur, rfl, hB, hg, hnc, hcm, hcs, htk⟩
  · omega
  · have hlt : g < w.heap.size := (Array.getElem?_eq_some_iff.1 hg).1
    have at' : ∀ i, i < t.length * 2 → w.cell? ⟨g, i, none⟩ = (cellsT t)[i]? := fun i hi => by
      simp only [World.cell?, hg]
      rw [← htk, List.getElem?_take, if_pos hi]
      simp
    obtain ⟨e1, e2⟩ := cellsT_at t j hj
    exact ⟨g, cap, rfl, hB, hlt, by rw [at' _ (by omega)]; exact e1, by rw [at' _ (by omega)]; exact e2, fun o => by simp [World.frozen?, hg]⟩

def lastB (t : List Trp) (e : Bool) : Bool := match t.getLast? with | some x => x.1 == e | none => false
theorem lastB_no {t : List Trp} {e : Bool} (h : lastB t e = false) : ∀ l, (shapeT t).getLast? = some l → l.1 ≠ e := by
  intro l hl
  rcases nil_or_snoc t with rfl | ⟨t', x, rfl⟩
  · cases hl
  · rw [shapeT_app] at hl
    have hl2 : some (x.1, x.2.2) = some l := by rw [← hl]; simp [shapeT]
    obtain rfl := Option.some.inj hl2
    unfold lastB at h
    simp at h
    exact h
theorem lastB_yes {t : List Trp} {e : Bool} (h : lastB t e = true) : ∃ t' u l, t = t' ++ [(e, u, l)] := by
  rcases nil_or_snoc t with rfl | ⟨t', ⟨x1, x2, x3⟩, rfl⟩
  · cases h
  · unfold lastB at h
    simp at h
    subst h
    exact ⟨t', x2, x3, rfl⟩

def JoinedPost (w : World) (p : List Blk) (e : Ending) (w' : World) : Prop := ∃ v t, e = .returned v ∧ RowB w w' w.heap.size v t ∧ shapeT t = joinL p

set_option maxRecDepth 100000 in
set_option maxHeartbeats 3200000 in
theorem rjoined_any (vp : Value) (p : List Blk) (w : World) (HP : IsBlocks w vp p) (hfl : (flatB p).length ≤ 4000) (h64 : In64 (flatB p)) :
    Calls Tryz.prog 46 #[vp] w (JoinedPost w p) := by
  have HPP := Lib.hid HP
  obtain ⟨a, cap, rfl, hlp⟩ := HP.shape
  have HFL := Lib.hid hfl
  have H64 := Lib.hid h64
  clear HP hfl h64
  go_enter Tryz.func46, Tryz.ntmps46
  go_wp2
  go_loopw [3, 4] (fun out i wr => ∃ (k : Nat) (t : List Trp), k ≤ p.length ∧ i = .int .i64 k ∧ RowB w wr w.heap.size out t ∧ shapeT t = joinL (p.take k)) (fun _ i _ => p.length - (intOf i).toNat)
  case atStart => exact ⟨0, [], Nat.zero_le _, rfl, RowB.nil (Below.refl _ _) (Nat.le_refl _), rfl⟩
  case round =>
    obtain ⟨k, t, hk, rfl, hrow, hsh⟩ := hrel
    have HRW := Lib.hid hrow
    have HSH := Lib.hid hsh
    have hszr := hrow.below.size
    obtain ⟨oa, oc, rfl⟩ := hrow.shape
    obtain ⟨n, hn⟩ : ∃ n, t.length = n := ⟨_, rfl⟩
    rw [hn] at HRW ⊢
    have HN := Lib.hid hn
    have HFB : Hid ((flatB (shapeT t)).length ≤ (flatB p).length ∧ t.length ≤ 4000 ∧ ∀ x ∈ t, x.2.2.length ≤ 4000 ∧ In64 x.2.2 ∧ x.2.2 ≠ []) := by
      have h0 : flatB (shapeT t) = flatB (p.take k) := by rw [hsh, flat_joinL]
      have h6 : flatB p = flatB (p.take k) ++ flatB (p.drop k) := by unfold flatB; rw [← List.flatten_append, ← List.map_append, List.take_append_drop]
      have h7 : (flatB (shapeT t)).length ≤ (flatB p).length := by rw [h0, h6, List.length_append]; omega
      have hful : ∀ x ∈ t, x.2.2 ≠ [] := fun x hx => by
        have h1 : (x.1, x.2.2) ∈ shapeT t := List.mem_map_of_mem (f := fun x : Trp => (x.1, x.2.2)) hx
        rw [hsh] at h1
        exact joinL_full _ _ h1
      have h8 := count_flatB (p := shapeT t) (fun b hb => by
        obtain ⟨x, hx, rfl⟩ := List.mem_map.1 hb
        exact hful x hx)
      rw [shapeT_len] at h8
      have := HFL.out
      refine ⟨h7, by omega, fun x hx => ⟨?_, fun z hz => ?_, hful x hx⟩⟩
      · have h1 := len_flatB (p := shapeT t) (b := (x.1, x.2.2)) (List.mem_map_of_mem (f := fun x : Trp => (x.1, x.2.2)) hx)
        simp only at h1
        omega
      · have h1 := mem_flatB (p := shapeT t) (b := (x.1, x.2.2)) (List.mem_map_of_mem (f := fun x : Trp => (x.1, x.2.2)) hx) hz
        rw [h0] at h1
        exact H64.out z (by rw [h6]; exact List.mem_append_left _ h1)
    have htl : (n : Int) ≤ 4000 := by have := HFB.out.2.1; omega
    have hn0 : (0 : Int) ≤ (n : Int) := by omega
    clear hn
    by_cases hlt : k < p.length
    · obtain ⟨b, off, u, rfl, hb, hcx0, hcu0, HU⟩ := HPP.out.at hlt
      have hcx := (hrow.below.cell (p := ⟨b, off + k * 2, none⟩) hb).trans hcx0
      have hcu := (hrow.below.cell (p := ⟨b, off + k * 2 + 1, none⟩) hb).trans hcu0
      have HJS : Hid (joinL (p.take (k + 1)) = joinStep (joinL (p.take k)) (p.getD k dB)) := by show _ = _; rw [take_two (d := dB) hlt, joinL_snoc]
      have hl2 : (p.getD k dB).2.length ≤ 4000 := by
        have := len_flatB (p := p) (b := p.getD k dB) (by simp [List.getD, hlt])
        have := HFL.out
        omega
      have hbr : b < wr.heap.size := by omega
      have hi0 : (0 : Int) ≤ (k : Int) := by omega
      have hi1 : (k : Int) < (p.length : Int) := by omega
      have HCX := Lib.hid (And.intro hcx0 hcu0)
      clear hcx0 hcu0 hsh
      generalize p.getD k dB = y at *
      obtain ⟨y1, y2⟩ := y
      simp only at hcx hcu HU HJS hl2 HCX
      have HUI : Hid (∀ X, Below wr.heap.size wr X → IsInts X u y2) := fun X hX => HU.below (hrow.below.trans (hX.mono hrow.below.size)) (Nat.le_refl _)
      obtain ⟨ua, uc, rfl⟩ := HU.shape
      clear HU hrow
      by_cases hy : y2 = []
      · subst hy
        go_wp2
        go_roundw
        case rel => exact ⟨k + 1, t, by omega, by go_num, HRW.out, by rw [HJS.out, HSH.out, joinStep_nil]⟩
        case measure => simp [intOf]; omega
      · have hz : ((y2.length : Int) == 0) = false := by simpa using hy
        have HY := Lib.hid hy
        clear hy
        obtain ⟨q, hq⟩ : ∃ q, lastB t y1 = q := ⟨_, rfl⟩
        go_upto_region 7 with fail
        go_cut [36] from 21 to 36 (fun s wx => s = .bool q ∧ Quiet wr wx)
        case first =>
          rcases nil_or_snoc t with rfl | ⟨t', ⟨x1, x2, x3⟩, rfl⟩
          · have hq0 : q = false := hq.symm
            subst hq0
            obtain rfl : n = 0 := HN.out.symm
            clear hq
            go_wp2_with fail
            go_quiet (fail)
            go_wp2
            go_meet
            exact ⟨rfl, ⟨_, rfl⟩⟩
          · have hq0 : (x1 == y1) = q := by rw [← hq]; unfold lastB; simp
            cases n with
            | zero => exact absurd HN.out (by simp)
            | succ m =>
            have hm : t'.length = m := by have := HN.out; simp at this; exact this
            obtain ⟨g, ocap, eo, hBg, hglt, ce, _⟩ := (RowB.cells HRW.out (j := t'.length) (by simp))
            injection eo with eo1 eo2 eo3
            clear eo2
            subst eo1
            subst eo3
            have egd : (t' ++ [(x1, x2, x3)]).getD t'.length (false, .slice none 0 0, []) = (x1, x2, x3) := by simp [List.getD]
            rw [egd, hm] at ce
            simp only at ce
            have hm0 : (0 : Int) ≤ (m : Int) := by omega
            have hm1 : (m : Int) < (m : Int) + 1 := by omega
            have hm2 : (0 : Int) < (m : Int) + 1 := by omega
            have hm3 : (m : Int) ≤ 4000 := by omega
            have hwm : IntKind.i64.wrap (m : Int) = (m : Int) := Go.IntWalk.i64_in _ ⟨by omega, by omega⟩
            have h4 : (x1 = true ∨ x1 = false) ∧ (y1 = true ∨ y1 = false) := by cases x1 <;> cases y1 <;> simp
            clear hq HRW HSH HFB HJS HUI hm egd HN htl hn0
            rcases h4 with ⟨rfl | rfl, rfl | rfl⟩
            all_goals
              subst hq0
              go_wp2_with fail
              go_quiet (fail)
              go_wp2
              go_meet
              exact ⟨rfl, ⟨_, rfl⟩⟩
        case rest =>
          obtain ⟨rfl, hqb⟩ := hcut
          have hR := hqb.below wr.heap.size
          have HBW := Lib.hid HRW.out.below
          have HYS : Hid (∀ X, Below w.heap.size w X → X.cell? ⟨b, off + k * 2, none⟩ = some (.bool y1) ∧ X.cell? ⟨b, off + k * 2 + 1, none⟩ = some (.slice ua y2.length uc)) := fun X hX => ⟨(hX.cell (p := ⟨b, off + k * 2, none⟩) hb).trans HCX.out.1, (hX.cell (p := ⟨b, off + k * 2 + 1, none⟩) hb).trans HCX.out.2⟩
          clear hcx hcu
          cases q with
          | false =>
            have HLB := Lib.hid (lastB_no hq)
            clear hq
            go_wp2_with fail
            refine wp_region_held_drew (S := Below w.heap.size w) (by kernel_rfl) ((HBW.out.trans (hR.mono hszr)).drew) (fun hS0 => ?_)
            have hR0 : Below wr.heap.size wr wc.drew := hR.drew
            clear hR hqb
            generalize wc.drew = x0 at *
            have hr0 := hR0.size
            have hz0 : w.heap.size ≤ x0.heap.size := Nat.le_trans hszr hr0
            refine takeW (i := 0) (v := .slice oa n oc) (some 56) rfl rfl (by kernel_rfl) (by kernel_rfl) (by kernel_rfl) (fun _ _ _ h => h) (Or.inl ⟨by rfl, ?_⟩) (by assumption) ?_
            · intro wz hSw; obtain ⟨y0, y1'⟩ := HYS.out wz hSw; go_simp
            try simp only [Act.put, List.setIfInBounds_toArray, List.set_cons_zero, List.set_cons_succ]
            refine takeW (i := 1) (v := .slice (some ⟨b, off, none⟩) p.length cap) (some 57) rfl rfl (by kernel_rfl) (by kernel_rfl) (by kernel_rfl) (fun _ _ _ h => h) (Or.inl ⟨by rfl, ?_⟩) (by assumption) ?_
            · intro wz hSw; obtain ⟨y0, y1'⟩ := HYS.out wz hSw; go_simp
            try simp only [Act.put, List.setIfInBounds_toArray, List.set_cons_zero, List.set_cons_succ]
            refine takeW (i := 2) (v := .int .i64 k) (some 58) rfl rfl (by kernel_rfl) (by kernel_rfl) (by kernel_rfl) (fun _ _ _ h => h) (Or.inl ⟨by rfl, ?_⟩) (by assumption) ?_
            · intro wz hSw; obtain ⟨y0, y1'⟩ := HYS.out wz hSw; go_simp
            try simp only [Act.put, List.setIfInBounds_toArray, List.set_cons_zero, List.set_cons_succ]
            refine takeW (i := 3) (v := .pointer (some ⟨b, off + k * 2, none⟩)) (some 59) rfl rfl (by kernel_rfl) (by kernel_rfl) (by kernel_rfl) (fun _ _ _ h => h) (Or.inl ⟨by rfl, ?_⟩) (by assumption) ?_
            · intro wz hSw; obtain ⟨y0, y1'⟩ := HYS.out wz hSw; go_simp
            try simp only [Act.put, List.setIfInBounds_toArray, List.set_cons_zero, List.set_cons_succ]
            refine takeW (i := 4) (v := .pointer (some ⟨b, off + k * 2, none⟩)) (some 60) rfl rfl (by kernel_rfl) (by kernel_rfl) (by kernel_rfl) (fun _ _ _ h => h) (Or.inl ⟨by rfl, ?_⟩) (by assumption) ?_
            · intro wz hSw; obtain ⟨y0, y1'⟩ := HYS.out wz hSw; go_simp
            try simp only [Act.put, List.setIfInBounds_toArray, List.set_cons_zero, List.set_cons_succ]
            refine takeW (i := 5) (v := .bool y1) (some 61) rfl rfl (by kernel_rfl) (by kernel_rfl) (by kernel_rfl) (fun _ _ _ h => h) (Or.inl ⟨by rfl, ?_⟩) (by assumption) ?_
            · intro wz hSw; obtain ⟨y0, y1'⟩ := HYS.out wz hSw; go_simp
            try simp only [Act.put, List.setIfInBounds_toArray, List.set_cons_zero, List.set_cons_succ]
            refine takeW (i := 7) (v := .slice (some ⟨b, off, none⟩) p.length cap) (some 63) rfl rfl (by kernel_rfl) (by kernel_rfl) (by kernel_rfl) (fun _ _ _ h => h) (Or.inl ⟨by rfl, ?_⟩) (by assumption) ?_
            · intro wz hSw; obtain ⟨y0, y1'⟩ := HYS.out wz hSw; go_simp
            try simp only [Act.put, List.setIfInBounds_toArray, List.set_cons_zero, List.set_cons_succ]
            refine takeW (i := 8) (v := .int .i64 k) (some 64) rfl rfl (by kernel_rfl) (by kernel_rfl) (by kernel_rfl) (fun _ _ _ h => h) (Or.inl ⟨by rfl, ?_⟩) (by assumption) ?_
            · intro wz hSw; obtain ⟨y0, y1'⟩ := HYS.out wz hSw; go_simp
            try simp only [Act.put, List.setIfInBounds_toArray, List.set_cons_zero, List.set_cons_succ]
            refine takeW (i := 9) (v := .pointer (some ⟨b, off + k * 2, none⟩)) (some 65) rfl rfl (by kernel_rfl) (by kernel_rfl) (by kernel_rfl) (fun _ _ _ h => h) (Or.inl ⟨by rfl, ?_⟩) (by assumption) ?_
            · intro wz hSw; obtain ⟨y0, y1'⟩ := HYS.out wz hSw; go_simp
            try simp only [Act.put, List.setIfInBounds_toArray, List.set_cons_zero, List.set_cons_succ]
            refine takeW (i := 10) (v := .pointer (some ⟨b, off + k * 2 + 1, none⟩)) (some 66) rfl rfl (by kernel_rfl) (by kernel_rfl) (by kernel_rfl) (fun _ _ _ h => h) (Or.inl ⟨by rfl, ?_⟩) (by assumption) ?_
            · intro wz hSw; obtain ⟨y0, y1'⟩ := HYS.out wz hSw; go_simp
            try simp only [Act.put, List.setIfInBounds_toArray, List.set_cons_zero, List.set_cons_succ]
            refine takeW (i := 11) (v := .slice ua y2.length uc) (some 67) rfl rfl (by kernel_rfl) (by kernel_rfl) (by kernel_rfl) (fun _ _ _ h => h) (Or.inl ⟨by rfl, ?_⟩) (by assumption) ?_
            · intro wz hSw; obtain ⟨y0, y1'⟩ := HYS.out wz hSw; go_simp
            try simp only [Act.put, List.setIfInBounds_toArray, List.set_cons_zero, List.set_cons_succ]
            refine wpAnyH_ready (rs := [6]) (by kernel_rfl) (by simp) ?_
            refine AllReadyH.cons rfl (fun K hK => ?_) AllReadyH.nil
            go_simp
            refine hK.out _ _ (hS0.alloc hz0 _) (fun _ => ?_)
            clear hK K
            have hi1 := HUI.out _ (hR0.alloc hr0 (.cells #[] 3))
            have hw1 := Own.built3 (w := x0) (B := wr.heap.size) hr0
            refine wpAnyH_ready (rs := [12]) (by kernel_rfl) (by simp) ?_
            refine AllReadyH.cons rfl (fun K hK => ?_) AllReadyH.nil
            refine step_appI (some 68) rfl rfl (.tmp 62) (.tmp 67) rfl wr.heap.size (.slice (some ⟨x0.heap.size, 0, none⟩) 0 0) (.slice ua y2.length uc) [] y2 rfl rfl hw1 hi1 HY.out (by simp; omega) (by simp; omega) ?_
            intro v7 w7 ho7 hg7 _
            have hb7 := (hR0.alloc hr0 (.cells #[] 3)).grown hg7 (by simp; omega) (fun g hg => (hw1.lt g hg).1)
            have hS7 := HBW.out.trans (hb7.mono hszr)
            have ho7 : Own w7 wr.heap.size v7 y2 := ho7
            obtain ⟨g7, c7, rfl⟩ := ho7.sh HY.out
            refine hK.out _ _ hS7 (fun _ => ?_)
            clear hK K
            try simp only [Act.put, List.setIfInBounds_toArray, List.set_cons_zero, List.set_cons_succ]
            refine takeW (i := 13) (v := .agg #[.bool y1, .slice (some ⟨g7, 0, none⟩) y2.length c7]) (some 69) rfl rfl (by kernel_rfl) (by kernel_rfl) (by kernel_rfl) (fun _ _ _ h => h) (Or.inl ⟨by rfl, ?_⟩) (by assumption) ?_
            · intro wz hSw; obtain ⟨y0, y1'⟩ := HYS.out wz hSw; go_simp
            try simp only [Act.put, List.setIfInBounds_toArray, List.set_cons_zero, List.set_cons_succ]
            refine wpAnyH_ready (rs := [14]) (by kernel_rfl) (by simp) ?_
            refine AllReadyH.cons rfl (fun K hK => ?_) AllReadyH.nil
            go_simp
            refine hK.out _ _ (hS7.alloc (Nat.le_trans hszr hb7.size) _) (fun hS8 => ?_)
            clear hK K
            have hb8 := hb7.alloc hb7.size (.cells #[.bool y1, .slice (some ⟨g7, 0, none⟩) y2.length c7] 53)
            refine wpAnyH_ready (rs := [15]) (by kernel_rfl) (by simp) ?_
            refine AllReadyH.cons rfl (fun K hK => ?_) AllReadyH.nil
            refine step_appBlk (some 71) rfl rfl (.tmp 56) (.tmp 70) rfl w.heap.size (.slice oa n oc) (.slice (some ⟨g7, 0, none⟩) y2.length c7) t y1 w7.heap.size rfl rfl (HRW.out.below' hb8 (Nat.le_refl _)).row (cell_fresh rfl) (cell_fresh rfl) rfl (by have := HFB.out.2.1; omega) hS8.size ?_
            intro v9 w9 hrow9 hg9
            refine hK.out _ _ (hS8.grown hg9 hS8.size (fun g hg => (rowB_lt HRW.out.row g hg).1)) (fun _ => ?_)
            clear hK K
            try simp only [Act.put, List.setIfInBounds_toArray, List.set_cons_zero, List.set_cons_succ]
            refine takeW (i := 16) (v := v9) (some 3) rfl rfl (by kernel_rfl) (by kernel_rfl) (by kernel_rfl) (fun _ _ _ h => h) (Or.inl ⟨by rfl, ?_⟩) (by assumption) ?_
            · intro wz hSw; obtain ⟨y0, y1'⟩ := HYS.out wz hSw; go_simp
            try simp only [Act.put, List.setIfInBounds_toArray, List.set_cons_zero, List.set_cons_succ]
            refine wpAnyH_done (by kernel_rfl) ?_ _
            have HRN := Lib.hid (RowB.more (s := [(y1, .slice (some ⟨g7, 0, none⟩) y2.length c7, y2)]) HRW.out hszr hb8 (fun x hx => by
              rw [List.mem_singleton] at hx
              subst hx
              exact .inl ((ho7.mono hszr).alloc _)) (by rw [List.length_append, cellsT_app]; exact hrow9) hg9)
            clear hrow9 hg9 ho7 hg7 hb7 hb8 hw1 hi1
            go_wp2
            go_roundw
            case rel => exact ⟨k + 1, _, by omega, by go_num, HRN.out, by rw [shapeT_app, HJS.out, ← HSH.out, joinStep_new HY.out HLB.out]; rfl⟩
            case measure => simp [intOf]; omega
          | true =>
            obtain ⟨t', xv, x3, rfl⟩ := lastB_yes hq
            clear hq
            cases n with
            | zero => exact absurd HN.out (by simp)
            | succ m =>
            have hm : t'.length = m := by have := HN.out; simp at this; exact this
            have hR0 : Below wr.heap.size wr wc.drew := hR.drew
            have HRD : Hid (RowB w wc.drew w.heap.size (.slice oa (m + 1) oc) (t' ++ [(y1, xv, x3)])) := HRW.out.below' hR0 (Nat.le_refl _)
            have hFX := HFB.out.2.2 (y1, xv, x3) (by simp)
            have hel : ElemB w wc.drew w.heap.size xv x3 := HRD.out.elems (y1, xv, x3) (by simp)
            have HX3 : Hid (x3 ≠ []) := hFX.2.2
            have hxl : x3.length ≤ 4000 := hFX.1
            have HXI : Hid (∀ X, Below wc.drew.heap.size wc.drew X → IsInts X xv x3) := fun X hX => (hel.ints HRD.out.below (by omega) hFX.2.1).below hX (Nat.le_refl _)
            obtain ⟨xa, xc, rfl⟩ := hel.shape
            obtain ⟨g, ocap, eo, hBg, hglt, _, cv, hfz⟩ := (RowB.cells HRD.out (j := t'.length) (by simp))
            injection eo with eo1 eo2 eo3
            clear eo2
            subst eo1
            subst eo3
            have egd : (t' ++ [(y1, Value.slice xa x3.length xc, x3)]).getD t'.length (false, Value.slice none 0 0, []) = (y1, Value.slice xa x3.length xc, x3) := by simp [List.getD]
            rw [egd, hm] at cv
            simp only at cv
            have HM := Lib.hid hm
            have HUX : Hid (∀ X, Below wc.drew.heap.size wc.drew X → IsInts X (.slice ua y2.length uc) y2) := fun X hX => HUI.out X (hR0.trans (hX.mono hR0.size))
            obtain ⟨T7, hT7⟩ : ∃ T, x3 ++ y2 = T := ⟨_, rfl⟩
            have HT7 := Lib.hid hT7
            have HTN : Hid (T7 ≠ []) := by rw [← hT7]; exact fun e1 => HX3.out (List.append_eq_nil_iff.1 e1).1
            have hszD : w.heap.size ≤ wc.drew.heap.size := Nat.le_trans hszr hR0.size
            have HS0 : Hid (Below w.heap.size w wc.drew) := HBW.out.trans (hR0.mono hszr)
            obtain ⟨y0, y1'⟩ := HYS.out _ HS0.out
            have hbd : b < wc.drew.heap.size := Nat.lt_of_lt_of_le hbr hR0.size
            have HGD := Lib.hid hglt
            have HBDD := Lib.hid hbd
            have HFZ := Lib.hid (hfz (m * 2 + 1))
            have HCV := Lib.hid cv
            have hm0 : (0 : Int) ≤ (m : Int) := by omega
            have hm1 : (m : Int) < (m : Int) + 1 := by omega
            have hm3 : (m : Int) ≤ 4000 := by omega
            have hwm : IntKind.i64.wrap (m : Int) = (m : Int) := Go.IntWalk.i64_in _ ⟨by omega, by omega⟩
            have HBG := Lib.hid hBg
            have ha1 : Below wc.drew.heap.size wc.drew (wc.alloc (.cells #[] 3)).drew := (Below.refl wc.drew.heap.size wc.drew).alloc (Nat.le_refl _) (.cells #[] 3)
            have HA2 : Hid (Own (wc.alloc (.cells #[] 3)).drew wc.drew.heap.size (.slice (some ⟨wc.heap.size, 0, none⟩) 0 0) []) := Own.built3 (w := wc.drew) (B := wc.drew.heap.size) (Nat.le_refl _)
            have e0 := (ha1.cell (p := ⟨g, m * 2 + 1, none⟩) hglt).trans cv
            have e1 := (ha1.cell (p := ⟨b, off + k * 2 + 1, none⟩) hbd).trans y1'
            have HA1 := Lib.hid ha1
            clear hm hR hqb hFX hel egd hT7 hfz hglt htl hn0 hBg ha1
            go_wp2_with fail
            go_region_law (first
              | (refine step_appI (some 53) rfl rfl (.tmp 47) (.tmp 52) rfl wc.drew.heap.size (.slice (some ⟨g7, 0, none⟩) x3.length c7) (.slice ua y2.length uc) x3 y2 rfl rfl HO7.out (HUX.out _ HB7.out) HY.out (by omega) HB7.out.size ?_; intro v8 w8 ho8 hg8 _; have HB8 := Lib.hid (HB7.out.grown hg8 HB7.out.size (fun j hj => (HO7.out.lt j hj).1)); have d8 := (HB8.out.cell (p := ⟨g, m * 2 + 1, none⟩) HGD.out).trans HCV.out; have f8 := (HB8.out.frozen (p := ⟨g, m * 2 + 1, none⟩) HGD.out).trans HFZ.out; rw [HT7.out] at ho8; obtain ⟨g8, c8, rfl⟩ := ho8.sh HTN.out; have HO8 := Lib.hid ho8; clear ho8 hg8)
              | (refine step_appI (some 47) rfl rfl (.tmp 40) (.tmp 46) rfl wc.drew.heap.size (.slice (some ⟨wc.heap.size, 0, none⟩) 0 0) (.slice xa x3.length xc) [] x3 rfl rfl HA2.out (HXI.out _ HA1.out) HX3.out (by simp; omega) HA1.out.size ?_; intro v7 w7 ho7 hg7 _; have HB7 := Lib.hid (HA1.out.grown hg7 HA1.out.size (fun j hj => (HA2.out.lt j hj).1)); obtain ⟨g7, c7, rfl⟩ := Own.sh ho7 (show [] ++ x3 ≠ [] from HX3.out); have HO7 : Hid (Own w7 wc.drew.heap.size (.slice (some ⟨g7, 0, none⟩) x3.length c7) x3) := ho7; have d7 := (HB7.out.cell (p := ⟨b, off + k * 2 + 1, none⟩) HBDD.out).trans y1'; clear ho7 hg7))
            all_goals
              have HRN : Hid (RowB w (w8.setCell ⟨g, m * 2 + 1, none⟩ (.slice (some ⟨g8, 0, none⟩) T7.length c8)) w.heap.size (.slice (some ⟨g, 0, none⟩) (m + 1) oc) (t' ++ [(y1, .slice (some ⟨g8, 0, none⟩) T7.length c8, T7)])) := by
                have h9 := RowB.swap HRD.out hszD HB8.out HO8.out
                rw [HM.out] at h9
                exact h9
              have HSP : Hid (shapeT (t' ++ [(y1, Value.slice (some ⟨g8, 0, none⟩) T7.length c8, T7)]) = joinL (p.take (k + 1))) := by
                show _ = _
                rw [HJS.out, ← HSH.out, shapeT_app, shapeT_app]
                show shapeT t' ++ [(y1, T7)] = joinStep (shapeT t' ++ [(y1, x3)]) (y1, y2)
                rw [joinStep_grow HY.out, HT7.out]
              have HLN : Hid ((t' ++ [(y1, Value.slice (some ⟨g8, 0, none⟩) T7.length c8, T7)]).length = m + 1) := by show _ = _; rw [List.length_append, HM.out]; rfl
              go_wp2
              go_roundw
              case rel => exact ⟨k + 1, t' ++ [(y1, .slice (some ⟨g8, 0, none⟩) T7.length c8, T7)], by omega, by go_num, HRN.out, HSP.out⟩
              case measure => simp [intOf]; omega
    · have hke : k = p.length := by omega
      subst hke
      rw [List.take_length] at hsh
      go_wp2
      go_ret
      exact ⟨_, t, rfl, HRW.out, hsh⟩
end Go.Proofs.YtmiijgjpkkmoaaaGreat
