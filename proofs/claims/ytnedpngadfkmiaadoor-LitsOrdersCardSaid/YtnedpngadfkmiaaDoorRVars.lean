/- The reference's Vars. -/
import Derived.Test.YtnedpngadfkmiaaDoorVars
namespace Go.Proofs.YtnedpngadfkmiaaDoor
open Go.RowKit Go.Shelf
set_option linter.unusedVariables false

def isFalseV (v : Value) : Bool := match v with | .bool b => !b | _ => false
set_option maxRecDepth 1000000 in
theorem zero_false : (Tryd.zeroCells91.toList.all isFalseV) = true := by kernel_rfl
theorem zero_list : Tryd.zeroCells91.toList = (List.replicate 65537 false).map Value.bool := by
  have h1 := zero_false
  have h2 : Tryd.zeroCells91.toList.length = 65537 := by rw [Array.length_toList]; exact Tryd.zeroCells91_size
  generalize Tryd.zeroCells91.toList = L at *
  rw [List.map_replicate]
  refine List.eq_replicate_iff.2 ⟨h2, fun v hv => ?_⟩
  have := List.all_eq_true.1 h1 v hv
  unfold isFalseV at this
  split at this
  · rename_i b; cases b
    · rfl
    · cases this
  · cases this

/-- The block holds these bools. -/
def ArrB (w : World) (g : Nat) (bs : List Bool) : Prop := ∃ cur t, w.heap[g]? = some (.cells cur t (0, 0)) ∧ cur.toList = bs.map Value.bool
theorem ArrB.lt {w : World} {g : Nat} {bs : List Bool} (h : ArrB w g bs) : g < w.heap.size := by obtain ⟨cur, t, h1, _⟩ := h; exact (Array.getElem?_eq_some_iff.1 h1).1
theorem ArrB.cell {w : World} {g : Nat} {bs : List Bool} (h : ArrB w g bs) (j : Nat) (hj : j < bs.length) : w.cell? ⟨g, j, none⟩ = some (.bool (bs.getD j false)) := by
  obtain ⟨cur, t, h1, h2⟩ := h
  have e : cur[j]? = some (.bool (bs.getD j false)) := by
    rw [← Array.getElem?_toList, h2]
    simp [List.getD, hj]
  simp [World.cell?, h1, e]
theorem ArrB.frozen {w : World} {g : Nat} {bs : List Bool} (h : ArrB w g bs) (j : Nat) : w.frozen? ⟨g, j, none⟩ = false := by
  obtain ⟨cur, t, h1, h2⟩ := h
  simp [World.frozen?, h1]
theorem ArrB.store {w : World} {g : Nat} {bs : List Bool} (h : ArrB w g bs) (j : Nat) (y : Bool) : ArrB (w.setCell ⟨g, j, none⟩ (.bool y)) g (bs.set j y) := by
  obtain ⟨cur, t, h1, h2⟩ := h
  refine ⟨_, t, heap_setCell_same w g j cur t _ h1, ?_⟩
  rw [Array.toList_setIfInBounds, h2, List.map_set]
theorem ArrB.alloc {w : World} (T : Nat) : ArrB (w.alloc (.cells Tryd.zeroCells91 T)) w.heap.size (List.replicate 65537 false) :=
  ⟨_, T, by unfold World.alloc; simp, zero_list⟩

theorem getD_rep (n i : Nat) : (List.replicate n false).getD i false = false := by
  simp only [List.getD, List.getElem?_replicate]
  split <;> rfl

set_option maxHeartbeats 1600000 in
set_option maxRecDepth 1000000 in
theorem rvars_any (v : Value) (f : List (List Int)) (w : World) (H : IsRows w v f) : Calls Tryd.prog 48 #[v] w (RetVars w f) := by
  obtain ⟨a, cap, rfl, hl⟩ := H.shape
  obtain ⟨gn, hg⟩ : ∃ gn : Nat, gn = 65536 := ⟨_, rfl⟩
  have hown1 : ArrB (w.alloc (.cells Tryd.zeroCells91 91)) w.heap.size (List.replicate (gn + 1) false) := by rw [hg]; exact ArrB.alloc (w := w) 91
  have g1 : (gn : Int) ≤ 65536 := by omega
  have g2 : (65536 : Int) ≤ (gn : Int) := by omega
  clear hg
  have hbel1 := (Below.refl w.heap.size w).alloc (Nat.le_refl _) (.cells Tryd.zeroCells91 91)
  go_enter Tryd.func48, Tryd.ntmps48
  go_wp2
  go_loopw [4] (fun i wr => ∃ (k : Nat) (bs : List Bool), k ≤ f.length ∧ i = .int .i64 k ∧ ArrB wr w.heap.size bs ∧ Below w.heap.size w wr ∧ bs.length = gn + 1 ∧ ∀ i : Nat, i ≤ gn → (bs.getD i false = true ↔ occ (f.take k) i)) (fun i _ => f.length - (intOf i).toNat)
  case atStart => exact ⟨0, List.replicate (gn + 1) false, Nat.zero_le _, rfl, hown1, hbel1, List.length_replicate, fun i hi => by rw [getD_rep]; simp [occ]⟩
  case round =>
    clear hown1 hbel1
    obtain ⟨k, bs, hk, rfl, hown, hbel, hlen, hbs⟩ := hrel
    have HB := Lib.hid hbs
    have HLN := Lib.hid hlen
    clear hbs hlen
    by_cases hlt : k < f.length
    · obtain ⟨b, off, u, rfl, hb, hu0, HU0⟩ := H.at hlt
      have HALL := Lib.hid (fun j (h : (f.getD k []).length ≤ j) v => occ2_all hlt h v)
      have HSUC := Lib.hid (fun j (h : j < (f.getD k []).length) v => occ2_succ h v)
      have HB0 : Hid (∀ i : Nat, i ≤ gn → (bs.getD i false = true ↔ occ2 f k 0 i)) := fun i hi => (HB.out i hi).trans (occ2_zero f k i).symm
      obtain ⟨l, hL⟩ : ∃ l, l = f.getD k [] := ⟨_, rfl⟩
      rw [← hL] at HU0 HALL HSUC
      clear hL
      have hll := HU0.len
      obtain ⟨ua, ucap, rfl, _, _, _, h64, b2, off2, ha2, hc2⟩ := HU0
      go_wp2
      go_loopw [5] (fun i wr => ∃ (j : Nat) (bs : List Bool), j ≤ l.length ∧ i = .int .i64 j ∧ ArrB wr w.heap.size bs ∧ Below w.heap.size w wr ∧ bs.length = gn + 1 ∧ ∀ i : Nat, i ≤ gn → (bs.getD i false = true ↔ occ2 f k j i)) (fun i _ => l.length - (intOf i).toNat)
      case atStart => exact ⟨0, bs, Nat.zero_le _, rfl, hown, hbel, HLN.out, HB0.out⟩
      case round =>
        obtain ⟨j, cs, hj, rfl, hown, hbel, hlen, hbs⟩ := hrel
        have hu := (hbel.cell (p := ⟨b, off + k, none⟩) hb).trans hu0
        have HB2 := Lib.hid hbs
        have HLN2 := Lib.hid hlen
        clear hbs hlen
        by_cases hlt2 : j < l.length
        · obtain ⟨rfl, hb2⟩ := ha2 (by intro h; simp [h] at hlt2)
          have hy := (hbel.cell (p := ⟨b2, off2 + j, none⟩) hb2).trans (hc2 j hlt2)
          have hy1 := (h64.at j hlt2).1
          have hy2 := (h64.at j hlt2).2
          have HS := Lib.hid (fun v => HSUC.out j hlt2 v)
          have HC2 := Lib.hid hc2
          clear hc2
          generalize l.getD j 0 = y at *
          have hv := varOf_bd y
          obtain ⟨t, ht⟩ := Int.eq_ofNat_of_zero_le hv.1
          have hcell := hown.cell t (by rw [HLN2.out]; omega)
          have hfz := hown.frozen t
          have hown2 := hown.store t true
          have hc1 := rvar_any y wr hy1 hy2
          rw [ht] at hc1
          have HT := Lib.hid ht
          have htg : t ≤ gn := by omega
          clear ht hv
          go_wp2_with (go_at_call 23; refine hc1.mono ?_; rintro e w' ⟨rfl, rfl⟩)
          go_roundw
          case rel =>
            refine ⟨j + 1, cs.set t true, by omega, by go_num, hown2, hbel.setCell (by simp) _, by rw [List.length_set]; exact HLN2.out, fun i' hi' => ?_⟩
            rw [HS.out]
            by_cases e : i' = t
            · subst e
              have : (cs.set i' true).getD i' false = true := by simp [List.getD, HLN2.out, show i' < gn + 1 by omega]
              exact ⟨fun _ => Or.inr HT.out, fun _ => this⟩
            · have h1 : (cs.set t true).getD i' false = cs.getD i' false := by simp [List.getD, Ne.symm e]
              rw [h1, HB2.out i' hi']
              constructor
              · exact Or.inl
              · rintro (h | h)
                · exact h
                · rw [HT.out] at h; exact absurd (by omega : i' = t) e
          case measure => simp [intOf]; omega
        · go_wp2
          go_roundw
          case rel => exact ⟨k + 1, cs, by omega, by go_num, hown, hbel, HLN2.out, fun i hi => (HB2.out i hi).trans (HALL.out j (by omega) _)⟩
          case measure => simp [intOf]; omega
    · have HB3 : Hid (∀ i : Nat, i ≤ gn → (bs.getD i false = true ↔ occ f i)) := by
        have := HB.out
        rw [List.take_of_length_le (by omega)] at this
        exact this
      have hblk : w.heap.size < wr.heap.size := hown.lt
      have hcb : ∀ i, i ≤ gn → wr.cell? ⟨w.heap.size, i, none⟩ = some (.bool (bs.getD i false)) := fun i hi => hown.cell i (by rw [HLN.out]; omega)
      have HCB := Lib.hid hcb
      have HBEL := Lib.hid hbel
      have hszw := hbel.size
      clear hcb hbel hown HB H
      generalize wr = wz at *
      go_wp2
      go_loopw [6, 7] (fun out i wr => ∃ k : Nat, k ≤ gn ∧ i = .int .i64 ((k : Int) + 1) ∧ Own wr wz.heap.size out (upTo (fun i => bs.getD i false) k) ∧ Below wz.heap.size wz wr) (fun _ i _ => gn + 1 - (intOf i).toNat)
      case atStart => exact ⟨0, Nat.zero_le _, rfl, Own.nil _ _, Below.refl _ _⟩
      case round =>
        obtain ⟨j, hj, rfl, hown, hbel⟩ := hrel
        have hln := upTo_len (fun i => bs.getD i false) j
        have hsz := hbel.size
        by_cases hlt2 : j < gn
        · have ht1 : (j : Int) + 1 ≤ 65536 := by omega
          have ht2 : (j : Int) + 1 < 65537 := by omega
          have ht3 : decide ((j : Int) + 1 ≤ 65536) = true := by rw [decide_eq_true_eq]; exact ht1
          have hz := (hbel.cell (p := ⟨w.heap.size, j + 1, none⟩) hblk).trans (HCB.out (j + 1) (by omega))
          by_cases hp : bs.getD (j + 1) false = true
          · have HT := Lib.hid (upTo_hit (p := fun i => bs.getD i false) hp)
            rw [hp] at hz
            clear hp
            go_wp2_with (at_builtin; refine wpList_app1 rfl _ _ rfl wz.heap.size _ _ ((j : Int) + 1) wr.heap.size rfl rfl (hown.alloc _) (by simp) (by omega) (by simp; omega) ?_; intro v' w' hown' hg')
            go_roundw
            case rel => exact ⟨j + 1, by omega, by go_num, by rw [HT.out]; exact hown', below_app (hbel.alloc (by omega) _) (hown.alloc _) (by simp; omega) hg'⟩
            case measure => simp [intOf]; omega
          · have hp' : bs.getD (j + 1) false = false := by simpa using hp
            have HT := Lib.hid (upTo_miss (p := fun i => bs.getD i false) hp')
            rw [hp'] at hz
            clear hp hp'
            go_wp2
            go_roundw
            case rel => exact ⟨j + 1, by omega, by go_num, by rw [HT.out]; exact hown, hbel⟩
            case measure => simp [intOf]; omega
        · have hjg : j = gn := by omega
          subst hjg
          have ht1 : ¬ (j : Int) + 1 ≤ 65536 := by omega
          have ht3 : decide ((j : Int) + 1 ≤ 65536) = false := by rw [decide_eq_false_iff_not]; exact ht1
          go_wp2
          go_ret
          refine ⟨upTo (fun i => bs.getD i false) j, ⟨_, rfl, hown.mono hszw, HBEL.out.trans (hbel.mono hszw)⟩, ⟨upTo_asc _ _, fun v => ?_⟩, by omega, fun x hx => ?_⟩
          · rw [upTo_mem]
            constructor
            · rintro ⟨i, h1, h2, rfl⟩
              exact ⟨by omega, (HB3.out (i + 1) (by omega)).1 h2⟩
            · rintro ⟨h1, h2⟩
              obtain ⟨l, hl1, x, hx, hxv⟩ := id h2
              have hvb := varOf_bd x
              have hle := varOf_bd x
              refine ⟨v.toNat - 1, by omega, (HB3.out (v.toNat - 1 + 1) (by omega)).2 ?_, by omega⟩
              rw [show ((v.toNat - 1 + 1 : Nat) : Int) = v by omega]
              exact h2
          · obtain ⟨i, h1, _, rfl⟩ := (upTo_mem _ _ _).1 hx
            omega

end Go.Proofs.YtnedpngadfkmiaaDoor
