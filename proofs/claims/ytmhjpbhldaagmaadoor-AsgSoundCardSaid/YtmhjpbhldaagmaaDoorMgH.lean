/- Joined texts: Vars, RVars. -/
import Derived.Test.YtmhjpbhldaagmaaDoorWithin
import Derived.Test.YtmhjpbhldaagmaaDoorMgR
/- lits.Vars. -/
namespace Go.Proofs.YtmhjpbhldaagmaaDoor
open Go.RowKit Go.Shelf
set_option linter.unusedVariables false

/-- A variable occurs in lists. -/
def occ (f : List (List Int)) (v : Int) : Prop := ∃ l ∈ f, ∃ x ∈ l, varOf x = v
def VarsOf (f : List (List Int)) (r : List Int) : Prop := r.Pairwise (· < ·) ∧ ∀ v, v ∈ r ↔ v ≠ 0 ∧ occ f v

theorem asc_unique {a b : List Int} (ha : a.Pairwise (· < ·)) (hb : b.Pairwise (· < ·)) (h : ∀ x, x ∈ a ↔ x ∈ b) : a = b := by
  induction a generalizing b with
  | nil =>
    cases b with
    | nil => rfl
    | cons y s => exact absurd ((h y).2 (by simp)) (by simp)
  | cons x r ih =>
    cases b with
    | nil => exact absurd ((h x).1 (by simp)) (by simp)
    | cons y s =>
      rw [List.pairwise_cons] at ha hb
      have hxy : x = y := by
        rcases List.mem_cons.1 ((h x).1 (by simp)) with e | hx
        · exact e
        · rcases List.mem_cons.1 ((h y).2 (by simp)) with e | hy
          · exact e.symm
          · have := ha.1 y hy; have := hb.1 x hx; omega
      subst hxy
      have : r = s := by
        apply ih ha.2 hb.2
        intro z
        constructor
        · intro hz
          rcases List.mem_cons.1 ((h z).1 (List.mem_cons_of_mem _ hz)) with e | h'
          · subst e; have := ha.1 _ hz; omega
          · exact h'
        · intro hz
          rcases List.mem_cons.1 ((h z).2 (List.mem_cons_of_mem _ hz)) with e | h'
          · subst e; have := hb.1 _ hz; omega
          · exact h'
      rw [this]
theorem VarsOf.unique {f : List (List Int)} {a b : List Int} (ha : VarsOf f a) (hb : VarsOf f b) : a = b :=
  asc_unique ha.1 hb.1 (fun x => (ha.2 x).trans (hb.2 x).symm)

/-- What has been seen: the first k lists, and the first j elements of the next one. -/
def occ2 (f : List (List Int)) (k j : Nat) (v : Int) : Prop := occ (f.take k) v ∨ ∃ x ∈ (f.getD k []).take j, varOf x = v
theorem occ2_zero (f : List (List Int)) (k : Nat) (v : Int) : occ2 f k 0 v ↔ occ (f.take k) v := by unfold occ2; simp
theorem occ2_all {f : List (List Int)} {k j : Nat} (hk : k < f.length) (hj : (f.getD k []).length ≤ j) (v : Int) : occ2 f k j v ↔ occ (f.take (k + 1)) v := by
  unfold occ2 occ
  rw [rows_take_succ hk, List.take_of_length_le hj]
  constructor
  · rintro (⟨l, hl, h⟩ | h)
    · exact ⟨l, List.mem_append_left _ hl, h⟩
    · exact ⟨_, List.mem_append_right _ (List.mem_singleton.2 rfl), h⟩
  · rintro ⟨l, hl, h⟩
    rcases List.mem_append.1 hl with hl | hl
    · exact .inl ⟨l, hl, h⟩
    · rw [List.mem_singleton] at hl; subst hl; exact .inr h
theorem occ2_succ {f : List (List Int)} {k j : Nat} (hj : j < (f.getD k []).length) (v : Int) : occ2 f k (j + 1) v ↔ occ2 f k j v ∨ varOf ((f.getD k []).getD j 0) = v := by
  unfold occ2
  generalize f.getD k [] = l at *
  have e : l.take (j + 1) = l.take j ++ [l.getD j 0] := by rw [List.take_succ_eq_append_getElem hj]; simp [List.getD, hj]
  rw [e]
  constructor
  · rintro (h | ⟨x, hx, h⟩)
    · exact .inl (.inl h)
    · rcases List.mem_append.1 hx with hx | hx
      · exact .inl (.inr ⟨x, hx, h⟩)
      · rw [List.mem_singleton] at hx; subst hx; exact .inr h
  · rintro ((h | ⟨x, hx, h⟩) | h)
    · exact .inl h
    · exact .inr ⟨x, List.mem_append_left _ hx, h⟩
    · exact .inr ⟨_, List.mem_append_right _ (List.mem_singleton.2 rfl), h⟩

/-- The variables from 1 on, up to k, of those that a row of bools tells. -/
def upTo (p : Nat → Bool) (k : Nat) : List Int := ((List.range k).filter (fun i => p (i + 1))).map (fun i : Nat => (i : Int) + 1)
theorem upTo_hit {p : Nat → Bool} {k : Nat} (h : p (k + 1) = true) : upTo p (k + 1) = upTo p k ++ [(k : Int) + 1] := by
  unfold upTo; rw [List.range_succ, List.filter_append, List.map_append]; simp [h]
theorem upTo_miss {p : Nat → Bool} {k : Nat} (h : p (k + 1) = false) : upTo p (k + 1) = upTo p k := by
  unfold upTo; rw [List.range_succ, List.filter_append, List.map_append]; simp [h]
theorem upTo_len (p : Nat → Bool) (k : Nat) : (upTo p k).length ≤ k := by
  unfold upTo; rw [List.length_map]; have := List.length_filter_le (fun i => p (i + 1)) (List.range k); simpa using this
theorem upTo_asc (p : Nat → Bool) (k : Nat) : (upTo p k).Pairwise (· < ·) := by
  unfold upTo
  rw [List.pairwise_map]
  exact (List.pairwise_lt_range.filter _).imp (fun h => by omega)
theorem upTo_mem (p : Nat → Bool) (k : Nat) (v : Int) : v ∈ upTo p k ↔ ∃ i : Nat, i < k ∧ p (i + 1) = true ∧ v = (i : Int) + 1 := by
  unfold upTo
  simp only [List.mem_map, List.mem_filter, List.mem_range]
  constructor
  · rintro ⟨i, ⟨h1, h2⟩, h3⟩; exact ⟨i, h1, h2, h3.symm⟩
  · rintro ⟨i, h1, h2, h3⟩; exact ⟨i, ⟨h1, h2⟩, h3.symm⟩

theorem wpList_mkBools2 {w : World} {ops : Array Oper} {rest : List Oper} {o : Oper} {a : Act} {Q : Exit → Act → World → Prop} (hgd : o.guard = none) (l c : Operand)
    (hop : o.op = Op.makeSlice 75 l c) (n : Nat) (L C : Int) (hl : a.eval l = .int .i64 L) (hc : a.eval c = .int .i64 C) (hL : L = n) (hC : C = n) (hn : n ≤ 17592186044416)
    (h : ∀ w', OwnB w' w.heap.size (.slice (some ⟨w.heap.size, 0, none⟩) n n) (List.replicate n false) → w.grownBy w' none → wpList Tryd.prog ops Q rest (a.put o.dst (.slice (some ⟨w.heap.size, 0, none⟩) n n)) w') : wpList Tryd.prog ops Q (o :: rest) a w :=
  wpList_mkBools hgd l c hop n (by rw [hl, hL]) (by rw [hc, hC]) hn h

def RetVars (w : World) (f : List (List Int)) (e : Ending) (w' : World) : Prop := ∃ r, RetOwn w r e w' ∧ VarsOf f r ∧ r.length ≤ 65536 ∧ In64 r

set_option maxHeartbeats 1600000 in
set_option maxRecDepth 100000 in
theorem vars_any (v : Value) (f : List (List Int)) (w : World) (H : IsRows w v f) : Calls Tryd.prog 16 #[v] w (RetVars w f) := by
  obtain ⟨a, cap, rfl, hl⟩ := H.shape
  go_enter Tryd.func16, Tryd.ntmps16
  go_wp2
  go_loop [3, 17] (fun g i => ∃ (k : Nat) (m : Int), k ≤ f.length ∧ i = .int .i64 k ∧ g = .int .i64 m ∧ 0 ≤ m ∧ m ≤ 65536 ∧ ∀ v, occ (f.take k) v → v ≤ m) (fun _ i => f.length - (intOf i).toNat)
  case atStart => exact ⟨0, 0, Nat.zero_le _, rfl, rfl, by omega, by omega, by simp [occ]⟩
  case round =>
    obtain ⟨k, m, hk, rfl, rfl, hm0, hm1, hi⟩ := hrel
    have HI := Lib.hid hi
    clear hi
    by_cases hlt : k < f.length
    · obtain ⟨b, off, u, rfl, hb, hu, HU⟩ := H.at hlt
      have HO0 : Hid (∀ v, occ2 f k 0 v → v ≤ m) := fun v h => HI.out v ((occ2_zero f k v).1 h)
      have HALL := Lib.hid (fun j (h : (f.getD k []).length ≤ j) v => occ2_all hlt h v)
      have HSUC := Lib.hid (fun j (h : j < (f.getD k []).length) v => occ2_succ h v)
      obtain ⟨l, hL⟩ : ∃ l, l = f.getD k [] := ⟨_, rfl⟩
      rw [← hL] at HU HALL HSUC
      clear hL
      have hll := HU.len
      obtain ⟨ua, ucap, rfl, _, _, _, h64, b2, off2, ha2, hc2⟩ := HU
      go_wp2
      go_loop [3, 23] (fun g i => ∃ (j : Nat) (m : Int), j ≤ l.length ∧ i = .int .i64 j ∧ g = .int .i64 m ∧ 0 ≤ m ∧ m ≤ 65536 ∧ ∀ v, occ2 f k j v → v ≤ m) (fun _ i => l.length - (intOf i).toNat)
      case atStart => exact ⟨0, m, Nat.zero_le _, rfl, rfl, hm0, hm1, HO0.out⟩
      case round =>
        obtain ⟨j, m2, hj, rfl, rfl, hm20, hm21, hi2⟩ := hrel
        have HI2 := Lib.hid hi2
        clear hi2
        by_cases hlt2 : j < l.length
        · obtain ⟨rfl, hb2⟩ := ha2 (by intro h; simp [h] at hlt2)
          have hy := hc2 j hlt2
          have hy1 := (h64.at j hlt2).1
          have hy2 := (h64.at j hlt2).2
          have HS := Lib.hid (fun v => HSUC.out j hlt2 v)
          have HC2 := Lib.hid hc2
          clear hc2
          generalize l.getD j 0 = y at *
          have hv := varOf_bd y
          have HN : Hid (∀ v, occ2 f k (j + 1) v → v ≤ max m2 (varOf y)) := by
            intro v hv'
            rcases (HS.out v).1 hv' with h | h
            · have := HI2.out v h; omega
            · omega
          go_wp2_with (go_at_call 46; refine (var_any _ _ (by omega) (by omega)).mono ?_; rintro e w' ⟨rfl, rfl⟩)
          go_round
          case rel => exact ⟨j + 1, max m2 (varOf y), by omega, by go_num, rfl, by omega, by omega, HN.out⟩
          case measure => simp [intOf]; omega
        · go_wp2
          go_round
          case rel => exact ⟨k + 1, m2, by omega, by go_num, rfl, hm20, hm21, fun v h => HI2.out v ((HALL.out j (by omega) v).2 h)⟩
          case measure => simp [intOf]; omega
    · have HG : Hid (∀ v, occ f v → v ≤ m) := by
        have := HI.out
        rw [List.take_of_length_le (by omega)] at this
        exact this
      clear HI
      obtain ⟨gn, rfl⟩ := Int.eq_ofNat_of_zero_le hm0
      go_wp2_with (at_make; refine wpList_mkBools2 rfl _ _ rfl (gn + 1) _ _ rfl rfl (by omega) (by omega) (by omega) ?_; intro w1 hown1 hg1)
      have hbel1 := (Below.refl w.heap.size w).grown hg1 (Nat.le_refl _) (fun k hk => by cases hk)
      clear hg1
      go_loopw [38] (fun i wr => ∃ (k : Nat) (bs : List Bool), k ≤ f.length ∧ i = .int .i64 k ∧ OwnB wr w.heap.size (.slice (some ⟨w.heap.size, 0, none⟩) (gn + 1) (gn + 1)) bs ∧ Below w.heap.size w wr ∧ bs.length = gn + 1 ∧ ∀ i : Nat, i ≤ gn → (bs.getD i false = true ↔ occ (f.take k) i)) (fun i _ => f.length - (intOf i).toNat)
      case atStart => exact ⟨0, List.replicate (gn + 1) false, Nat.zero_le _, rfl, hown1, hbel1, by simp, fun i hi => by simp [List.getD, occ, show i < gn + 1 by omega]⟩
      case round =>
        obtain ⟨k, bs, hk, rfl, hown, hbel, hlen, hbs⟩ := hrel
        have HB := Lib.hid hbs
        have HLN := Lib.hid hlen
        clear hbs hlen
        by_cases hlt : k < f.length
        · obtain ⟨b, off, u, rfl, hb, hu0, HU0⟩ := H.at hlt
          have hu := (hbel.cell (p := ⟨b, off + k, none⟩) hb).trans hu0
          have HALL := Lib.hid (fun j (h : (f.getD k []).length ≤ j) v => occ2_all hlt h v)
          have HSUC := Lib.hid (fun j (h : j < (f.getD k []).length) v => occ2_succ h v)
          have HB0 : Hid (∀ i : Nat, i ≤ gn → (bs.getD i false = true ↔ occ2 f k 0 i)) := fun i hi => (HB.out i hi).trans (occ2_zero f k i).symm
          have HMX : Hid (∀ x ∈ f.getD k [], varOf x ≤ gn) := fun x hx => HG.out _ ⟨_, rows_getD_mem hlt, x, hx, rfl⟩
          obtain ⟨l, hL⟩ : ∃ l, l = f.getD k [] := ⟨_, rfl⟩
          rw [← hL] at HU0 HALL HSUC HMX
          clear hL hu0
          have hll := HU0.len
          obtain ⟨ua, ucap, rfl, _, _, _, h64, b2, off2, ha2, hc2⟩ := HU0
          go_wp2
          go_loopw [44] (fun i wr => ∃ (j : Nat) (bs : List Bool), j ≤ l.length ∧ i = .int .i64 j ∧ OwnB wr w.heap.size (.slice (some ⟨w.heap.size, 0, none⟩) (gn + 1) (gn + 1)) bs ∧ Below w.heap.size w wr ∧ bs.length = gn + 1 ∧ ∀ i : Nat, i ≤ gn → (bs.getD i false = true ↔ occ2 f k j i)) (fun i _ => l.length - (intOf i).toNat)
          case atStart => exact ⟨0, bs, Nat.zero_le _, rfl, hown, hbel, HLN.out, HB0.out⟩
          case round =>
            obtain ⟨j, cs, hj, rfl, hown, hbel, hlen, hbs⟩ := hrel
            have HB2 := Lib.hid hbs
            have HLN2 := Lib.hid hlen
            clear hbs hlen
            by_cases hlt2 : j < l.length
            · obtain ⟨rfl, hb2⟩ := ha2 (by intro h; simp [h] at hlt2)
              have hy := (hbel.cell (p := ⟨b2, off2 + j, none⟩) hb2).trans (hc2 j hlt2)
              have hy1 := (h64.at j hlt2).1
              have hy2 := (h64.at j hlt2).2
              have HS := Lib.hid (fun v => HSUC.out j hlt2 v)
              have hvm := HMX.out _ (getD_mem hlt2)
              have HC2 := Lib.hid hc2
              clear hc2
              generalize l.getD j 0 = y at *
              have hv := varOf_bd y
              obtain ⟨t, ht⟩ := Int.eq_ofNat_of_zero_le hv.1
              have hcell := hown.cell t (by rw [HLN2.out]; omega)
              have hfz := hown.frozen t
              have hown2 := hown.store t true
              have hc1 := var_any y wr hy1 hy2
              rw [ht] at hc1
              have HT := Lib.hid ht
              have htg : t ≤ gn := by omega
              clear ht hvm hv
              go_wp2_with (go_at_call 46; refine hc1.mono ?_; rintro e w' ⟨rfl, rfl⟩)
              go_roundw
              case rel =>
                refine ⟨j + 1, cs.set t true, by omega, by go_num, hown2, hbel.setCell (by simp) _, by rw [List.length_set]; exact HLN2.out, fun i' hi' => ?_⟩
                rw [HS.out]
                by_cases e : i' = t
                · subst e
                  have : (cs.set i' true).getD i' false = true := by simp [List.getD, HLN2.out, show i' < gn + 1 by omega]
                  exact ⟨fun _ => Or.inr HT.out, fun _ => this⟩
                · have h1 : (cs.set t true).getD i' false = cs.getD i' false := by simp [List.getD, Ne.symm e]
                  rw [h1, HB2.out i' hi']
                  constructor
                  · exact Or.inl
                  · rintro (h | h)
                    · exact h
                    · rw [HT.out] at h; exact absurd (by omega : i' = t) e
              case measure => simp [intOf]; omega
            · go_wp2
              go_roundw
              case rel => exact ⟨k + 1, cs, by omega, by go_num, hown, hbel, HLN2.out, fun i hi => (HB2.out i hi).trans (HALL.out j (by omega) _)⟩
              case measure => simp [intOf]; omega
        · have HB3 : Hid (∀ i : Nat, i ≤ gn → (bs.getD i false = true ↔ occ f i)) := by
            have := HB.out
            rw [List.take_of_length_le (by omega)] at this
            exact this
          have hblk : w.heap.size < wr.heap.size := (hown.lt w.heap.size rfl).2
          have hcb : ∀ i, i ≤ gn → wr.cell? ⟨w.heap.size, i, none⟩ = some (.bool (bs.getD i false)) := fun i hi => hown.cell i (by rw [HLN.out]; omega)
          have HCB := Lib.hid hcb
          have HBEL := Lib.hid hbel
          have hszw := hbel.size
          clear hcb hbel hown HB hown1 hbel1 H
          generalize wr = wz at *
          go_wp2
          go_loopw [13, 14] (fun out i wr => ∃ k : Nat, k ≤ gn ∧ i = .int .i64 ((k : Int) + 1) ∧ Own wr wz.heap.size out (upTo (fun i => bs.getD i false) k) ∧ Below wz.heap.size wz wr) (fun _ i _ => gn + 1 - (intOf i).toNat)
          case atStart => exact ⟨0, Nat.zero_le _, rfl, Own.nil _ _, Below.refl _ _⟩
          case round =>
            obtain ⟨j, hj, rfl, hown, hbel⟩ := hrel
            have hln := upTo_len (fun i => bs.getD i false) j
            have hsz := hbel.size
            by_cases hlt2 : j < gn
            · have hz := (hbel.cell (p := ⟨w.heap.size, j + 1, none⟩) hblk).trans (HCB.out (j + 1) (by omega))
              by_cases hp : bs.getD (j + 1) false = true
              · have HT := Lib.hid (upTo_hit (p := fun i => bs.getD i false) hp)
                rw [hp] at hz
                clear hp
                go_wp2_with (at_builtin; refine wpList_app1 rfl _ _ rfl wz.heap.size _ _ ((j : Int) + 1) wr.heap.size rfl rfl (hown.alloc _) (by simp) (by omega) (by simp; omega) ?_; intro v' w' hown' hg')
                go_roundw
                case rel => exact ⟨j + 1, by omega, by go_num, by rw [HT.out]; exact hown', below_app (hbel.alloc (by omega) _) (hown.alloc _) (by simp; omega) hg'⟩
                case measure => simp [intOf]; omega
              · have hp' : bs.getD (j + 1) false = false := by simpa using hp
                have HT := Lib.hid (upTo_miss (p := fun i => bs.getD i false) hp')
                rw [hp'] at hz
                clear hp hp'
                go_wp2
                go_roundw
                case rel => exact ⟨j + 1, by omega, by go_num, by rw [HT.out]; exact hown, hbel⟩
                case measure => simp [intOf]; omega
            · have hjg : j = gn := by omega
              subst hjg
              go_wp2
              go_ret
              refine ⟨upTo (fun i => bs.getD i false) j, ⟨_, rfl, hown.mono hszw, HBEL.out.trans (hbel.mono hszw)⟩, ⟨upTo_asc _ _, fun v => ?_⟩, by omega, fun x hx => ?_⟩
              · rw [upTo_mem]
                constructor
                · rintro ⟨i, h1, h2, rfl⟩
                  exact ⟨by omega, (HB3.out (i + 1) (by omega)).1 h2⟩
                · rintro ⟨h1, h2⟩
                  obtain ⟨l, hl1, x, hx, hxv⟩ := id h2
                  have hvb := varOf_bd x
                  have hle := HG.out v h2
                  refine ⟨v.toNat - 1, by omega, (HB3.out (v.toNat - 1 + 1) (by omega)).2 ?_, by omega⟩
                  rw [show ((v.toNat - 1 + 1 : Nat) : Int) = v by omega]
                  exact h2
              · obtain ⟨i, h1, _, rfl⟩ := (upTo_mem _ _ _).1 hx
                omega

end Go.Proofs.YtmhjpbhldaagmaaDoor

/- The reference's Vars. -/
namespace Go.Proofs.YtmhjpbhldaagmaaDoor
open Go.RowKit Go.Shelf
set_option linter.unusedVariables false

def isFalseV (v : Value) : Bool := match v with | .bool b => !b | _ => false
/-- The block holds these bools. -/
def ArrB (w : World) (g : Nat) (bs : List Bool) : Prop := ∃ cur t, w.heap[g]? = some (.cells cur t (0, 0)) ∧ cur.toList = bs.map Value.bool
theorem ArrB.lt {w : World} {g : Nat} {bs : List Bool} (h : ArrB w g bs) : g < w.heap.size := by obtain ⟨cur, t, h1, _⟩ := h; exact (Array.getElem?_eq_some_iff.1 h1).1
theorem ArrB.cell {w : World} {g : Nat} {bs : List Bool} (h : ArrB w g bs) (j : Nat) (hj : j < bs.length) : w.cell? ⟨g, j, none⟩ = some (.bool (bs.getD j false)) := by
  obtain ⟨cur, t, h1, h2⟩ := h
  have e : cur[j]? = some (.bool (bs.getD j false)) := by
    rw [← Array.getElem?_toList, h2]
    simp [List.getD, hj]
  simp [World.cell?, h1, e]
theorem ArrB.frozen {w : World} {g : Nat} {bs : List Bool} (h : ArrB w g bs) (j : Nat) : w.frozen? ⟨g, j, none⟩ = false := by
  obtain ⟨cur, t, h1, h2⟩ := h
  simp [World.frozen?, h1]
theorem ArrB.store {w : World} {g : Nat} {bs : List Bool} (h : ArrB w g bs) (j : Nat) (y : Bool) : ArrB (w.setCell ⟨g, j, none⟩ (.bool y)) g (bs.set j y) := by
  obtain ⟨cur, t, h1, h2⟩ := h
  refine ⟨_, t, heap_setCell_same w g j cur t _ h1, ?_⟩
  rw [Array.toList_setIfInBounds, h2, List.map_set]
theorem getD_rep (n i : Nat) : (List.replicate n false).getD i false = false := by
  simp only [List.getD, List.getElem?_replicate]
  split <;> rfl

end Go.Proofs.YtmhjpbhldaagmaaDoor
