/- lits.Norm: copied, sorted, compacted. -/
import Derived.Test.YtmhjpbhldaagmaaDoorMgC
import Derived.Test.YtmhjpbhldaagmaaDoorShelf
namespace Go.Proofs.YtmhjpbhldaagmaaDoor
open Go.RowKit Go.Shelf Go.Sort Go.Lib
set_option linter.unusedVariables false

/-- The integers of the kind int. -/
abbrev I64 : Type := { x : Int // -9223372036854775808 ≤ x ∧ x ≤ 9223372036854775807 }
instance : Inhabited I64 := ⟨⟨0, by omega, by omega⟩⟩
def encI64 (x : I64) : Value := .int .i64 x.1
def toI (l : List Int) (h : In64 l) : List I64 := l.pmap (fun x hx => ⟨x, hx⟩) (fun x hx => h x hx)
theorem toI_val (l : List Int) (h : In64 l) : (toI l h).map (fun x => x.1) = l := by
  unfold toI
  rw [List.map_pmap]
  simp
theorem toI_enc (l : List Int) (h : In64 l) : (toI l h).map encI64 = l.map (Value.int .i64) := by
  have : (toI l h).map encI64 = ((toI l h).map (fun x => x.1)).map (Value.int .i64) := by rw [List.map_map]; rfl
  rw [this, toI_val]

theorem swo_lit : SWO (ltOf (fun x y : I64 => cmpLit x.1 y.1)) := by
  have e : ∀ x y : I64, ltOf (fun x y : I64 => cmpLit x.1 y.1) x y = decide (litLt x.1 y.1) := by
    intro x y
    show decide (cmpLit x.1 y.1 < 0) = _
    rw [cmpLit_eq]
    by_cases h1 : litLt x.1 y.1
    · simp [h1]
    · by_cases h2 : litLt y.1 x.1 <;> simp [h1, h2]
  constructor
  · intro x; rw [e]; simpa using litLt_irrefl x.1
  · intro x y z; rw [e, e, e]; simp only [decide_eq_true_eq]; exact litLt_trans
  · intro x y z; rw [e, e, e]; simp only [decide_eq_false_iff_not]
    intro h1 h2 h3
    rcases litLt_tri x.1 y.1 with h | h | h
    · exact h1 h
    · rw [h] at h3; exact h2 h3
    · exact h2 (litLt_trans h h3)

theorem ltOf_lit (x y : I64) : ltOf (fun x y : I64 => cmpLit x.1 y.1) x y = decide (litLt x.1 y.1) := by
  show decide (cmpLit x.1 y.1 < 0) = _
  rw [cmpLit_eq]
  by_cases h1 : litLt x.1 y.1
  · simp [h1]
  · by_cases h2 : litLt y.1 x.1 <;> simp [h1, h2]

theorem below_sortWorld {α : Type} [Inhabited α] {enc : α → Value} {B g m : Nat} {w : World} {d : Array α} {os : Array Obj} (hg : B ≤ g) (hB : B ≤ w.heap.size) : Below B w (sortWorld enc w g 0 m d os) := by
  have h1 : Below B w (putRow enc (Sort.ahead w m) g 0 d) := below_putRow (Below.refl _ _) hg
  refine h1.trans ⟨rfl, rfl, rfl, by simp [sortWorld, grow], fun k hk => ?_⟩
  show ((putRow enc (Sort.ahead w m) g 0 d).heap ++ os)[k]? = _
  rw [Array.getElem?_append_left (by have := h1.size; omega)]

theorem cmplits_enters (args : Array Value) (w : World) : (callFunc 83 args).run Tryd.prog w = .ok (.enter 83 args) w := enters_of Tryd.func83 (by kernel_rfl) rfl args w

def SortPost (B g cap : Nat) (l : List Int) (w : World) (e : Ending) (w' : World) : Prop :=
  e = .returned (.tuple #[]) ∧ ∃ s, s.Perm l ∧ (∀ i j, i < j → j < s.length → ¬ litLt (s.getD j 0) (s.getD i 0)) ∧ Own w' B (.slice (some ⟨g, 0, none⟩) l.length cap) s ∧ Below B w w'

theorem sortints_any (B g cap : Nat) (l : List Int) (w : World) (hown : Own w B (.slice (some ⟨g, 0, none⟩) l.length cap) l) (h64 : In64 l) (hl : l.length ≤ 17592186044416) :
    Calls Tryd.prog 82 #[.slice (some ⟨g, 0, none⟩) l.length cap, .func (.func 83) #[] #[]] w (SortPost B g cap l w) := by
  have hb := hown.block
  have hrow : w.ownsRow B 3 1 (.slice (some ⟨g, 0, none⟩) l.length cap) l.length ((toI l h64).map encI64) := by rw [toI_enc]; exact hown
  obtain ⟨g', cap', e, _, _, hcap, _, hlen, hH⟩ := holds_of_ownsRow hrow (by intro h; cases h)
  injection e with e1 _ e3
  injection e1 with e1
  injection e1 with e1
  subst e1; subst e3
  have hsz : (toI l h64).toArray.size = l.length := by simp [hlen]
  have hcmp : CmpLays1 Tryd.prog 83 #[] encI64 (fun x y : I64 => cmpLit x.1 y.1) g 0 (toI l h64).toArray.size w := by
    intro m os dk _ x y
    refine (cmplits_any x.1 y.1 _ x.2.1 x.2.2 y.2.1 y.2.2).mono ?_
    rintro e w' ⟨he, hw⟩
    refine ⟨he, 0, #[.cells litKeys 124], ?_⟩
    rw [hw, alloc_eq_grow]; rfl
  have hc := Tryd.slices_SortFunc encI64 (fun _ => rfl) (fun x y : I64 => cmpLit x.1 y.1) swo_lit 83 #[] g 0 cap (toI l h64).toArray w cmplits_enters hcmp hH hb.2 (by rw [hsz]; omega)
  rw [hsz] at hc
  refine hc.mono ?_
  rintro e w' ⟨he, d', m, os, hperm, hsort, hw⟩
  refine ⟨he, d'.toList.map (fun x => x.1), ?_, ?_, ?_, ?_⟩
  · have h1 := hperm.2.2
    have h2 : (d'.extract 0 l.length).toList = d'.toList := by rw [show l.length = d'.size from by rw [hperm.1, hsz]]; simp
    have h3 : ((toI l h64).toArray.extract 0 l.length).toList = toI l h64 := by rw [← hsz]; simp
    rw [h2, h3] at h1
    have := h1.map (fun x : I64 => x.1)
    rwa [toI_val] at this
  · intro i j hij hj
    have hj' : j < d'.size := by simpa using hj
    have hjl : j < l.length := by rw [← hsz, ← hperm.1]; exact hj'
    have h := hsort i j (Nat.zero_le _) hij hjl
    rw [ltOf_lit] at h
    have h' := of_decide_eq_false h
    simpa [getElem!_pos, hj', show i < d'.size by omega, List.getD] using h'
  · have hy : d'.toList.length = l.length := by rw [Array.length_toList, hperm.1, hsz]
    have hr := ownsRow_putRow (q := m) (k := l.length) hrow hy (Nat.le_refl _)
    have e1 : (d'.toList.take l.length).map encI64 = (d'.toList.map (fun x : I64 => x.1)).map (Value.int .i64) := by
      rw [List.take_of_length_le (by omega), List.map_map]; rfl
    rw [e1] at hr
    have ho : Own (putRow encI64 (Sort.ahead w m) g 0 d'.toList.toArray) B (.slice (some ⟨g, 0, none⟩) l.length cap) (d'.toList.map (fun x : I64 => x.1)) := by
      unfold Own
      rw [List.length_map, hy]
      exact hr
    rw [hw]
    rw [Array.toArray_toList] at ho
    refine ho.below (C := (putRow encI64 (Sort.ahead w m) g 0 d').heap.size) ?_ (Nat.le_refl _)
    refine ⟨rfl, rfl, rfl, by simp [sortWorld, grow], fun k hk => ?_⟩
    show ((putRow encI64 (Sort.ahead w m) g 0 d').heap ++ os)[k]? = _
    rw [Array.getElem?_append_left hk]
  · rw [hw]; exact below_sortWorld hb.1 (by omega)

def CompPost (B g cap : Nat) (s : List Int) (w : World) (e : Ending) (w' : World) : Prop :=
  e = .returned (.slice (some ⟨g, 0, none⟩) (Lib.compact s).length cap) ∧ Own w' B (.slice (some ⟨g, 0, none⟩) (Lib.compact s).length cap) (Lib.compact s) ∧ Below B w w'

theorem compactints_any (B g n cap : Nat) (s : List Int) (w : World) (hown : Own w B (.slice (some ⟨g, 0, none⟩) n cap) s) (hl : n ≤ 17592186044416) :
    Calls Tryd.prog 84 #[.slice (some ⟨g, 0, none⟩) n cap] w (CompPost B g cap s w) := by
  have hb := hown.block
  have hrow0 : w.ownsRow B 3 1 (.slice (some ⟨g, 0, none⟩) n cap) s.length (s.map (Value.int .i64)) := hown
  obtain ⟨g', cap', e, _, _, hcap, _, hlen, hH⟩ := holds_of_ownsRow hrow0 (by intro h; cases h)
  injection e with e1 e2 e3
  injection e1 with e1
  injection e1 with e1
  subst e1; subst e3; subst e2
  have hle := compact_length_le s
  refine (Tryd.slices_Compact_int g 0 cap s w hH (by omega) hcap).mono ?_
  rintro e w' ⟨he, q, hw⟩
  have hy : (Lib.compact s ++ List.replicate (s.length - (Lib.compact s).length) 0).length = s.length := by simp; omega
  have hr := ownsRow_putRow (q := q) (k := (Lib.compact s).length) hrow0 hy hle
  rw [List.take_left] at hr
  refine ⟨he, ?_, ?_⟩
  · rw [hw]; exact hr
  · rw [hw]; exact below_putRow (Below.refl _ _) hb.1

theorem litB_of_var {x : Int} (h : litB x = false) : varOf x = 0 := by rw [litB_var] at h; simpa using h
theorem var_of_litB {x : Int} (h : litB x = true) : varOf x ≠ 0 := by rw [litB_var] at h; simpa using h

set_option maxHeartbeats 800000 in
set_option maxRecDepth 100000 in
theorem norm_any (v : Value) (l : List Int) (w : World) (H : IsInts w v l) : Calls Tryd.prog 52 #[v] w (RetPair w (normR l)) := by
  have H0 := H
  obtain ⟨a, cap, rfl, _, _, hl, h64, b, off, ha, hc⟩ := H
  by_cases hbig : 200000 < l.length
  · have HF : Hid (normR l = ([], 2)) := by show _ = _; unfold normR; rw [if_pos (Or.inl hbig)]
    go_enter Tryd.func52, Tryd.ntmps52
    go_wp2
    go_ret2
    exact ⟨_, ret_pair (by rw [HF.out]), by rw [HF.out]; exact IsInts.nil _, Below.refl _ _⟩
  go_enter Tryd.func52, Tryd.ntmps52
  go_wp2
  go_loop [12] (fun i => ∃ k : Nat, k ≤ l.length ∧ i = .int .i64 k ∧ ∀ x ∈ l.take k, litB x = true) (fun i => l.length - (intOf i).toNat)
  case atStart => exact ⟨0, Nat.zero_le _, rfl, by simp⟩
  case round =>
    obtain ⟨k, hk, rfl, hi⟩ := hrel
    by_cases hlt : k < l.length
    · obtain ⟨rfl, hb⟩ := ha (by intro h; simp [h] at hlt)
      have hy := hc k hlt
      have hy1 := (h64.at k hlt).1
      have hy2 := (h64.at k hlt).2
      have hmem := getD_mem hlt
      have HI := Lib.hid hi
      have HC := Lib.hid hc
      by_cases hp : litB (l.getD k 0) = true
      · have HN := Lib.hid (forall_take_succ (p := fun x => litB x = true) hlt hi hp)
        have hne : (varOf (l.getD k 0) == 0) = false := by simpa using var_of_litB hp
        clear hi hc hp
        generalize l.getD k 0 = y at *
        go_wp2_with (go_at_call 46; refine (var_any _ _ (by omega) (by omega)).mono ?_; rintro e w' ⟨rfl, rfl⟩)
        go_round
        case rel => exact ⟨k + 1, by omega, by go_num, HN.out⟩
        case measure => simp [intOf]; omega
      · have HF : Hid (normR l = ([], 2)) := by show _ = _; unfold normR; rw [if_pos (Or.inr (fun h => hp (h _ hmem)))]
        have hne : (varOf (l.getD k 0) == 0) = true := by simpa using litB_of_var (by simpa using hp)
        clear hi hc hp hmem
        generalize l.getD k 0 = y at *
        go_wp2_with (go_at_call 46; refine (var_any _ _ (by omega) (by omega)).mono ?_; rintro e w' ⟨rfl, rfl⟩)
        go_ret2
        exact ⟨_, ret_pair (by rw [HF.out]), by rw [HF.out]; exact IsInts.nil _, Below.refl _ _⟩
    · have HI : Hid (∀ x ∈ l, litB x = true) := by
        show ∀ x ∈ l, litB x = true
        rw [List.take_of_length_le (by omega)] at hi
        exact hi
      have HF : Hid (normR l = tautR (sortI l)) := by show _ = _; unfold normR; rw [if_neg (by intro h; rcases h with h | h; exact hbig h; exact h HI.out)]
      clear hi
      have hl64 : In64 (sortI l) := fun x hx => h64 x ((sortI_mem l x).1 hx)
      have hsl := sortI_len l
      go_wp2_with fail
      refine (copied_any _ l _ H0).mono ?_
      rintro e w1 ⟨rfl, hown1, hbel1⟩
      go_wp2_with fail
      refine (sortints_any w.heap.size w.heap.size l.length l _ hown1 h64 hl).mono ?_
      rintro e w2 ⟨rfl, s, hperm, hsort, hown2, hbel2⟩
      have HS := Lib.hid (compact_sortI hperm hsort)
      have HP := Lib.hid hperm
      clear hperm hsort
      go_wp2_with fail
      refine (compactints_any w.heap.size w.heap.size l.length l.length s _ hown2 hl).mono ?_
      rintro e w3 ⟨rfl, hown3, hbel3⟩
      rw [HS.out] at hown3
      rw [HS.out]
      have hbel := (hbel1.trans hbel2).trans hbel3
      have HI3 := hown3.ints (by omega) hl64
      by_cases hm : mayB (sortI l) = true
      · have HG : Hid (normR l = (sortI l, 0)) := HF.out.trans (by unfold tautR; rw [if_pos hm])
        go_wp2_with fail
        refine (may_v _ _ _ HI3).mono ?_
        rintro e w4 ⟨rfl, rfl⟩
        go_wp2
        go_ret2
        exact ⟨_, ret_pair (by rw [HG.out]), by rw [HG.out]; exact HI3, hbel⟩
      · have HG : Hid (normR l = ([], 10)) := HF.out.trans (by unfold tautR; rw [if_neg hm])
        have hm' : mayB (sortI l) = false := by simpa using hm
        clear hm
        go_wp2_with fail
        refine (may_v _ _ _ HI3).mono ?_
        rintro e w4 ⟨rfl, rfl⟩
        go_wp2
        go_ret2
        exact ⟨_, ret_pair (by rw [HG.out]), by rw [HG.out]; exact IsInts.nil _, hbel⟩

end Go.Proofs.YtmhjpbhldaagmaaDoor
