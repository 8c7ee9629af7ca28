/- Joined texts: CxRMany, CxRMeant, CxRMean, CxRXor, CxRIte, CxRMeaning, CxPMean, CxPSref. -/
import Derived.Test.YticcikelapifaaaK18
import Derived.Test.YticcikelapifaaaK03
import Derived.Test.YticcikelapifaaaK11
import Derived.Test.YticcikelapifaaaK19
/- The reference's meant and many (layer 5). -/
namespace Go.Proofs.Yticcikelapifaaa
open Go.RowKit Go.Maps Go.Shelf
set_option linter.unusedVariables false
set_option linter.unusedSimpArgs false

/-- The literals that are left, none if one wins. -/
def manyGo (s : Int) : List Int → List Int → Option (List Int)
  | o, [] => some o
  | o, x :: r => if x = -s ∨ -x ∈ o then none else manyGo s (if x ≠ s ∧ x ∉ o then o ++ [x] else o) r
def manyS (k : Int) : Int := if k = 2 then -1000000 else 1000000
def manyR (k : Int) (l : List Int) : Int × List Int := match manyGo (manyS k) [] l with
  | none => (-manyS k, [])
  | some [] => (manyS k, [])
  | some [x] => (x, [])
  | some (x :: y :: r) => (0, x :: y :: r)
theorem manyGo_cons {s : Int} {o l : List Int} {k : Nat} (hk : k < l.length) : manyGo s o (l.drop k) = if l.getD k 0 = -s ∨ -(l.getD k 0) ∈ o then none else manyGo s (if l.getD k 0 ≠ s ∧ l.getD k 0 ∉ o then o ++ [l.getD k 0] else o) (l.drop (k + 1)) := by
  have e : l.drop k = l.getD k 0 :: l.drop (k + 1) := by rw [List.drop_eq_getElem_cons hk]; simp [List.getD, hk]
  rw [e]
  rfl
theorem manyS_bd (k : Int) : manyS k = 1000000 ∨ manyS k = -1000000 := by
  unfold manyS
  split
  · exact .inr rfl
  · exact .inl rfl

theorem own_one {w : World} {B : Nat} {v : Value} {y : Int} (h : Own w B v [y]) : ∃ g cap, v = .slice (some ⟨g, 0, none⟩) 1 cap := by
  rcases h.2 with ⟨_, h2⟩ | ⟨g, cap, cur, e, _⟩
  · simp at h2
  · exact ⟨g, cap, e⟩
set_option maxHeartbeats 3200000 in
set_option maxRecDepth 100000 in
theorem rmany5_any (k : Int) (v : Value) (l : List Int) (w : World) (H : IsInts w v l) (hl : l.length ≤ 4000000) (hb : ∀ x ∈ l, -1000000 ≤ x ∧ x ≤ 1000000) :
    Calls Try.prog 129 #[.int .u8 k, v] w fun e w' => ∃ u, e = .returned (.tuple #[.int .i64 (manyR k l).1, u]) ∧ Own w' w.heap.size u (manyR k l).2 ∧ Below w.heap.size w w' := by
  have HH := Lib.hid H
  have HBD := Lib.hid hb
  have HLL := Lib.hid hl
  obtain ⟨a, cap, rfl⟩ := H.shape
  have HMR : Hid (∀ L, manyGo (manyS k) [] l = L → manyR k l = match L with
    | none => (-manyS k, [])
    | some [] => (manyS k, [])
    | some [x] => (x, [])
    | some (x :: y :: r) => (0, x :: y :: r)) := fun L h => by rw [← h]; rfl
  have HS := Lib.hid (manyS_bd k)
  obtain ⟨R, hR⟩ : ∃ R, manyR k l = R := ⟨_, rfl⟩
  rw [hR] at HMR ⊢
  clear hR H hb hl
  have hk2 : (if k = 2 then (-1000000 : Int) else 1000000) = manyS k := rfl
  obtain ⟨s, hs⟩ : ∃ s, manyS k = s := ⟨_, rfl⟩
  rw [hs] at HMR HS hk2
  clear hs
  go_enter Try.func129, Try.ntmps129
  go_upto_if 11 with fail
  go_cut [6, 7] from 10 to 11 (fun p q wx => p = .int .i64 s ∧ q = .int .i64 (-s) ∧ wx = w)
  case first =>
    by_cases hk : k = 2
    · have hkb : (k == 2) = true := by simpa using hk
      rw [if_pos hk] at hk2
      subst hk2
      clear hk
      go_wp2
      go_meet
      exact ⟨rfl, rfl, rfl⟩
    · have hkb : (k == 2) = false := by simpa using hk
      rw [if_neg hk] at hk2
      subst hk2
      clear hk
      go_wp2
      go_meet
      exact ⟨rfl, rfl, rfl⟩
  case rest =>
    obtain ⟨rfl, rfl, rfl⟩ := hcut
    clear hk2
    go_wp2
    go_loopw [8, 9] (fun out i wr => ∃ (q : Nat) (o : List Int), q ≤ l.length ∧ i = .int .i64 q ∧ Own wr wc.heap.size out o ∧ Below wc.heap.size wc wr ∧ Hid (∀ x ∈ o, x ∈ l) ∧ Hid (manyGo s [] l = manyGo s o (l.drop q)) ∧ o.length ≤ q) (fun _ i _ => l.length - (intOf i).toNat)
    case atStart => exact ⟨0, [], Nat.zero_le _, rfl, Own.nil _ _, Below.refl _ _, (fun x hx => by cases hx), (by show _ = _; rw [List.drop_zero]), Nat.le_refl _⟩
    case round =>
      obtain ⟨q, o, hq, rfl, hown, hbel, HOL, HGO, hoq⟩ := hrel
      have HO := Lib.hid hown
      have HB := Lib.hid hbel
      have HOQ := Lib.hid hoq
      have hszr := hbel.size
      obtain ⟨oa, oc, rfl⟩ := own_shC hown
      clear hown hbel hoq
      have HOI : Hid (IsInts wr (.slice oa o.length oc) o) := HO.out.ints (by have := HOQ.out; have := HLL.out; omega) (fun y hy => by have := HBD.out y (HOL.out y hy); omega)
      by_cases hlt : q < l.length
      · obtain ⟨b, off, rfl, hb, hc0⟩ := HH.out.cellY hlt
        have hc := (HB.out.cell (p := ⟨b, off + q, none⟩) hb).trans hc0
        have HGC := Lib.hid (manyGo_cons (s := s) (o := o) hlt)
        have hxm : l.getD q 0 ∈ l := by simp [List.getD, hlt]
        have HXM := Lib.hid hxm
        have hxb := HBD.out _ hxm
        have hq0 : (0 : Int) ≤ (q : Int) := by omega
        have hq1 : (q : Int) < (l.length : Int) := by omega
        have hq2 : (q : Int) < 4000001 := by have := HLL.out; omega
        have hne2 : ¬ l = [] := by intro e; rw [e] at hlt; simp at hlt
        have HQL := Lib.hid hlt
        clear hc0 hxm hlt hq
        generalize l.getD q 0 = x at *
        have HI1 := Lib.hid (in5_any _ o (-x) wr HOI.out (by omega) (by omega))
        have HI2 := Lib.hid (in5_any _ o x wr HOI.out (by omega) (by omega))
        obtain ⟨hx1, hx2⟩ := hxb
        by_cases hw : x = -s
        · have hwb : (x == -s) = true := by simpa using hw
          have HR := Lib.hid (HMR.out none (by rw [HGO.out, HGC.out, if_pos (.inl hw)]))
          clear hw
          obtain rfl : R = (-s, []) := HR.out
          go_wp2
          go_ret2
          exact ⟨_, rfl, Own.nil _ _, HB.out⟩
        · have hwb : (x == -s) = false := by simpa using hw
          have HW := Lib.hid hw
          clear hw
          cases hm1 : memB o (-x) with
          | true =>
            have HR := Lib.hid (HMR.out none (by rw [HGO.out, HGC.out, if_pos (.inr (by unfold memB at hm1; simpa using hm1))]))
            rw [hm1] at HI1
            clear hm1
            obtain rfl : R = (-s, []) := HR.out
            go_wp2_with (go_at_call 37; refine HI1.out.mono ?_; rintro e w2 ⟨rfl, rfl⟩)
            go_ret2
            exact ⟨_, rfl, Own.nil _ _, HB.out⟩
          | false =>
            have HM1 : Hid (¬ (x = -s ∨ -x ∈ o)) := by show ¬ _; unfold memB at hm1; rintro (h | h); exact HW.out h; rw [decide_eq_true h] at hm1; cases hm1
            rw [hm1] at HI1
            clear hm1
            by_cases hs : x = s
            · have hsb : (x != s) = false := by simpa using hs
              have HG2 : Hid (manyGo s [] l = manyGo s o (l.drop (q + 1))) := by show _ = _; rw [HGO.out, HGC.out, if_neg HM1.out, if_neg (by intro h; exact h.1 hs)]
              clear hs
              go_wp2_with (go_at_call 37; refine HI1.out.mono ?_; rintro e w2 ⟨rfl, rfl⟩)
              go_roundw
              case rel => exact ⟨q + 1, o, HQL.out, by go_num, HO.out, HB.out, HOL, HG2, by have := HOQ.out; omega⟩
              case measure => have := HQL.out; simp [intOf]; omega
            · have hsb : (x != s) = true := by simpa using hs
              have HSN := Lib.hid hs
              clear hs
              cases hm2 : memB o x with
              | true =>
                rw [hm2] at HI2
                have HG2 : Hid (manyGo s [] l = manyGo s o (l.drop (q + 1))) := by show _ = _; rw [HGO.out, HGC.out, if_neg HM1.out, if_neg (by intro h; unfold memB at hm2; exact h.2 (by simpa using hm2))]
                clear hm2
                go_wp2_with (first
                  | (go_at_call_of 37 (Value.int .i64 (-x)); refine HI1.out.mono ?_; rintro e w2 ⟨rfl, rfl⟩)
                  | (go_at_call 37; refine HI2.out.mono ?_; rintro e w2 ⟨rfl, rfl⟩))
                go_roundw
                case rel => exact ⟨q + 1, o, HQL.out, by go_num, HO.out, HB.out, HOL, HG2, by have := HOQ.out; omega⟩
                case measure => have := HQL.out; simp [intOf]; omega
              | false =>
                rw [hm2] at HI2
                have HG2 : Hid (manyGo s [] l = manyGo s (o ++ [x]) (l.drop (q + 1))) := by show _ = _; rw [HGO.out, HGC.out, if_neg HM1.out, if_pos ⟨HSN.out, by intro h; unfold memB at hm2; rw [decide_eq_true h] at hm2; cases hm2⟩]
                have HOL2 : Hid (∀ y ∈ o ++ [x], y ∈ l) := fun y hy => by
                  rcases List.mem_append.1 hy with h | h
                  · exact HOL.out y h
                  · rw [List.mem_singleton] at h; rw [h]; exact HXM.out
                clear hm2
                go_wp2_with (first
                  | (go_at_call_of 37 (Value.int .i64 (-x)); refine HI1.out.mono ?_; rintro e w2 ⟨rfl, rfl⟩)
                  | (go_at_call 37; refine HI2.out.mono ?_; rintro e w2 ⟨rfl, rfl⟩)
                  | (at_builtin; go_loud (refine wpList_app1 rfl (.tmp 49) (.tmp 54) rfl wc.heap.size (.slice oa o.length oc) o x wr.heap.size rfl rfl (HO.out.alloc _) (cell_fresh rfl) (by have := HOQ.out; have := HLL.out; have := HQL.out; omega) (by simp; omega) ?_; intro v9 w9 ho9 hg9; have HB9 : Hid (Below wc.heap.size wc w9) := (HB.out.alloc hszr _).grown hg9 (by simp; omega) (fun g hg => (HO.out.lt g hg).1); have HO9 := Lib.hid ho9; clear ho9 hg9)))
                go_roundw
                case rel => exact ⟨q + 1, o ++ [x], HQL.out, by go_num, HO9.out, HB9.out, HOL2, HG2, by have := HOQ.out; simp; omega⟩
                case measure => have := HQL.out; simp [intOf]; omega
      · have HQ : Hid (q = l.length) := by show _ = _; omega
        have HEN := Lib.hid (HMR.out (some o) (by rw [HGO.out, HQ.out, List.drop_length]; rfl))
        clear HMR HGO
        cases o with
        | nil =>
          obtain rfl : R = (s, []) := HEN.out
          go_wp2
          go_ret2
          exact ⟨_, rfl, Own.nil _ _, HB.out⟩
        | cons y r =>
          cases r with
          | nil =>
            obtain rfl : R = (y, []) := HEN.out
            obtain ⟨g, gcap, ev⟩ := own_one HO.out
            injection ev with e1 e2 e3
            clear e2
            subst e1; subst e3
            have hy := HO.out.cell 0 (by simp)
            rw [show ([y] : List Int).getD 0 0 = y from rfl] at hy
            go_wp2
            go_ret2
            exact ⟨_, rfl, Own.nil _ _, HB.out⟩
          | cons z r =>
            obtain rfl : R = (0, y :: z :: r) := HEN.out
            have hn0 : (((y :: z :: r).length : Nat) : Int) ≠ 0 := by simp; omega
            have hn1 : (((y :: z :: r).length : Nat) : Int) ≠ 1 := by simp; omega
            obtain ⟨m, hm⟩ : ∃ m, (y :: z :: r).length = m := ⟨_, rfl⟩
            rw [hm] at hn0 hn1 ⊢
            have hb0 : ((m : Int) == 0) = false := by simpa using hn0
            have hb1 : ((m : Int) == 1) = false := by simpa using hn1
            have HOM := Lib.hid HO.out
            rw [hm] at HOM
            clear hn0 hn1 hm
            go_wp2
            go_ret2
            exact ⟨_, rfl, HOM.out, HB.out⟩
end Go.Proofs.Yticcikelapifaaa

/- The reference's meant (layer 5): meanings in a block of the call's own. -/
namespace Go.Proofs.Yticcikelapifaaa
open Go.RowKit Go.Maps Go.Shelf
set_option linter.unusedVariables false
set_option linter.unusedSimpArgs false

/-- Meanings in a block of the call's own. -/
def MkI (w : World) (B b : Nat) (f : Int → Int) : Prop := ∃ xs, Own w B (.slice (some ⟨b, 0, none⟩) nM nM) xs ∧ xs.length = nM ∧ ∀ i : Nat, i < nM → xs.getD i 0 = f i
theorem own_n {w : World} {B b : Nat} {xs : List Int} (h : Own w B (.slice (some ⟨b, 0, none⟩) nM nM) xs) (e : xs.length = nM) : Own w B (.slice (some ⟨b, 0, none⟩) xs.length xs.length) xs := by rw [e]; exact h
theorem MkI.lt {w : World} {B b : Nat} {f : Int → Int} (h : MkI w B b f) : B ≤ b ∧ b < w.heap.size := by
  obtain ⟨xs, h1, _⟩ := h
  exact World.ownsRow.lt h1 b rfl
theorem MkI.cell {w : World} {B b : Nat} {f : Int → Int} (h : MkI w B b f) {i : Nat} (hi : i < nM) : w.cell? ⟨b, i, none⟩ = some (.int .i64 (f i)) := by
  obtain ⟨xs, h1, h2, h3⟩ := h
  rw [(own_n h1 h2).cell i (by omega), h3 i hi]
theorem MkI.frozen {w : World} {B b : Nat} {f : Int → Int} (h : MkI w B b f) (i : Nat) : w.frozen? ⟨b, i, none⟩ = false := by
  obtain ⟨xs, h1, h2, h3⟩ := h
  exact (own_n h1 h2).frozen i
theorem MkI.set {w : World} {B b : Nat} {f : Int → Int} (h : MkI w B b f) (i : Nat) (hi : i < nM) (y : Int) : MkI (w.setCell ⟨b, i, none⟩ (.int .i64 y)) B b (fun j => if j = (i : Int) then y else f j) := by
  obtain ⟨xs, h1, h2, h3⟩ := h
  have h4 := (own_n h1 h2).store i y
  rw [h2] at h4
  refine ⟨xs.set i y, h4, by rw [List.length_set, h2], fun j hj => ?_⟩
  show _ = if (j : Int) = (i : Int) then y else f j
  by_cases e : i = j
  · subst e
    rw [if_pos rfl]
    simp [List.getD, List.getElem?_set, h2, hj]
  · rw [if_neg (by omega), ← h3 j hj]
    simp [List.getD, List.getElem?_set, e]
theorem MkI.kept {w w' : World} {B b : Nat} {S : Nat → Prop} {f : Int → Int} (h : MkI w B b f) (k : Kept S w w') (hS : ¬ S b) : MkI w' B b f := by
  obtain ⟨xs, h1, h2, h3⟩ := h
  refine ⟨xs, k.row (show w.ownsRow B _ 1 _ _ _ from h1) (fun g hg e => hS ?_), h2, h3⟩
  have : g = b := by simpa [Value.ownBlock] using hg.symm
  subst this
  exact e
theorem MkI.below {w w' : World} {B C b : Nat} {f : Int → Int} (h : MkI w B b f) (hb : Below C w w') (hC : w.heap.size ≤ C) : MkI w' B b f := by
  have hl := h.lt
  exact h.kept (S := fun i => C ≤ i) ⟨hb.os, hb.tape, hb.output, hb.size, fun k hk hS => hb.block k (by omega)⟩ (by omega)
theorem MkI.mono {w : World} {B B' b : Nat} {f : Int → Int} (h : MkI w B b f) (hB : B' ≤ B) : MkI w B' b f := by
  obtain ⟨xs, h1, h2⟩ := h
  exact ⟨xs, h1.mono hB, h2⟩
theorem MkI.congr {w : World} {B b : Nat} {f g : Int → Int} (h : MkI w B b f) (e : ∀ i : Int, 0 ≤ i → i ≤ 65536 → f i = g i) : MkI w B b g := by
  obtain ⟨xs, h1, h2, h3⟩ := h
  exact ⟨xs, h1, h2, fun i hi => by rw [h3 i hi]; exact e i (by omega) (by have := nM_eq; omega)⟩
/-- What a literal means. -/
def meantF (f : Int → Int) (x : Int) : Int := if x < 0 then -f (-x) else f x

set_option maxHeartbeats 800000 in
set_option maxRecDepth 100000 in
theorem rmeant5_any (B b : Nat) (f : Int → Int) (x : Int) (w : World) (HM : MkI w B b f) (hx : -65536 ≤ x ∧ x ≤ 65536) (hf : -1000000 ≤ f (if x < 0 then -x else x) ∧ f (if x < 0 then -x else x) ≤ 1000000) :
    Calls Try.prog 95 #[.slice (some ⟨b, 0, none⟩) nM nM, .int .i64 x] w fun e w' => e = .returned (.int .i64 (meantF f x)) ∧ w = w' := by
  have hn := nM_eq
  have HN := Lib.hid hn
  by_cases h : x < 0
  · obtain ⟨n, hnx⟩ := Int.eq_ofNat_of_zero_le (show 0 ≤ -x by omega)
    have hnl : n < nM := by omega
    have hc := HM.cell hnl
    have hfn := hf
    rw [if_pos h, hnx] at hfn
    have HR : Hid (meantF f x = -f (n : Int)) := by show _ = _; unfold meantF; rw [if_pos h, hnx]
    obtain rfl : x = -(n : Int) := by omega
    have hn0 : (0 : Int) ≤ (n : Int) := by omega
    have hn1 : (n : Int) < (nM : Int) := by omega
    have hn2 : (n : Int) ≤ 65536 := by omega
    clear HM hf hx hn hnx hnl
    generalize meantF f (-(n : Int)) = r at *
    generalize f (n : Int) = z at *
    obtain ⟨hz1, hz2⟩ := hfn
    go_enter Try.func95, Try.ntmps95
    go_wp2
    go_ret
    exact ⟨ret_int HR.out.symm, rfl⟩
  · obtain ⟨n, rfl⟩ := Int.eq_ofNat_of_zero_le (show 0 ≤ x by omega)
    have hnl : n < nM := by omega
    have hc := HM.cell hnl
    have HR : Hid (meantF f (n : Int) = f (n : Int)) := by show _ = _; unfold meantF; rw [if_neg h]
    have hn0 : (0 : Int) ≤ (n : Int) := by omega
    have hn1 : (n : Int) < (nM : Int) := by omega
    clear HM hf hx hn hnl
    generalize meantF f (n : Int) = r at *
    generalize f (n : Int) = z at *
    go_enter Try.func95, Try.ntmps95
    go_wp2
    go_ret
    exact ⟨ret_int HR.out.symm, rfl⟩
end Go.Proofs.Yticcikelapifaaa

/- The reference's meaning (layer 5). -/
namespace Go.Proofs.Yticcikelapifaaa
open Go.RowKit Go.Maps Go.Shelf
set_option linter.unusedVariables false
set_option linter.unusedSimpArgs false

theorem set3 {w : World} {b : Nat} {T : TypeId} {a0 a1 a2 x y z : Value} (h : w.heap[b]? = some (.cells #[a0, a1, a2] T (0, 0))) : (((w.setCell ⟨b, 0, none⟩ x).setCell ⟨b, 1, none⟩ y).setCell ⟨b, 2, none⟩ z).heap[b]? = some (.cells #[x, y, z] T (0, 0)) := by
  simp [World.setCell, Array.getElem?_modify, h]
theorem set3_kept (w : World) (b : Nat) (x y z : Value) : Kept (fun i => i = b) w (((w.setCell ⟨b, 0, none⟩ x).setCell ⟨b, 1, none⟩ y).setCell ⟨b, 2, none⟩ z) := by
  have k1 : Kept (fun i => i = b) w (w.setCell ⟨b, 0, none⟩ x) := Kept.setCell w ⟨b, 0, none⟩ x
  have k2 : Kept (fun i => i = b) (w.setCell ⟨b, 0, none⟩ x) ((w.setCell ⟨b, 0, none⟩ x).setCell ⟨b, 1, none⟩ y) := Kept.setCell _ ⟨b, 1, none⟩ y
  have k3 : Kept (fun i => i = b) ((w.setCell ⟨b, 0, none⟩ x).setCell ⟨b, 1, none⟩ y) (((w.setCell ⟨b, 0, none⟩ x).setCell ⟨b, 1, none⟩ y).setCell ⟨b, 2, none⟩ z) := Kept.setCell _ ⟨b, 2, none⟩ z
  exact (k1.trans k2).trans k3
theorem Kept.quiet0 (S : Nat → Prop) {w w' : World} (h : Quiet w w') : Kept S w w' := by
  obtain ⟨n, rfl⟩ := h
  exact ⟨rfl, rfl, rfl, Nat.le_refl _, fun _ _ _ => rfl⟩
/-- What meaning hands back: v; if v is 0, the gate that stays, with a list of the call's own or the one that it was handed. -/
def MeanPost (ul : Value) (l : List Int) (w : World) (g1 : Int) (v k : Int) (L : List Int) (e : Ending) (w' : World) : Prop :=
  ∃ y1 y2 ua un uc, e = .returned (.tuple #[.int .i64 v, .agg #[.int .i64 y1, .int .u8 y2, .slice ua un uc]]) ∧ Below w.heap.size w w' ∧ (v = 0 → y1 = g1 ∧ y2 = k ∧ (Own w' w.heap.size (.slice ua un uc) L ∨ (.slice ua un uc = ul ∧ L = l)))

set_option maxHeartbeats 3200000 in
set_option maxRecDepth 100000 in
theorem rmean_ao (g1 k : Int) (ug ul : Value) (gl l : List Int) (w : World) (HU : IsInts w ug gl) (HL : IsInts w ul l) (hk : k = 1 ∨ k = 2) (hl : l.length ≤ 4000000) (hb : ∀ x ∈ l, -1000000 ≤ x ∧ x ≤ 1000000) :
    Calls Try.prog 96 #[.agg #[.int .i64 g1, .int .u8 k, ug], ul] w (MeanPost ul l w g1 (manyR k l).1 k (manyR k l).2) := by
  obtain ⟨ga, gc, rfl⟩ := HU.shape
  obtain ⟨la, lc, rfl⟩ := HL.shape
  obtain ⟨W0, hW0⟩ : ∃ W0, (w.alloc (.cells #[.int .i64 g1, .int .u8 k, .slice ga gl.length gc] 71)).alloc (.cells #[.int .i64 0, .int .u8 0, .slice none 0 0] 71) = W0 := ⟨_, rfl⟩
  have hb0 : Below w.heap.size w W0 := by rw [← hW0]; exact ((Below.refl w.heap.size w).alloc (Nat.le_refl _) _).alloc (by simp) _
  have hz : W0.heap.size = w.heap.size + 2 := by rw [← hW0]; simp
  have h0 : W0.heap[w.heap.size]? = some (.cells #[.int .i64 g1, .int .u8 k, .slice ga gl.length gc] 71 (0, 0)) := by
    rw [← hW0, Below.heap_alloc _ _ _ (by simp)]; exact heap_hit rfl
  have h1 : W0.heap[w.heap.size + 1]? = some (.cells #[.int .i64 0, .int .u8 0, .slice none 0 0] 71 (0, 0)) := by rw [← hW0]; exact heap_hit (by simp)
  have HX : Hid (∀ X, Below W0.heap.size W0 X → (X.cell? ⟨w.heap.size, 0, none⟩ = some (.int .i64 g1) ∧ X.cell? ⟨w.heap.size, 1, none⟩ = some (.int .u8 k) ∧ X.cell? ⟨w.heap.size, 2, none⟩ = some (.slice ga gl.length gc)) ∧ X.heap[w.heap.size + 1]? = some (.cells #[.int .i64 0, .int .u8 0, .slice none 0 0] 71 (0, 0))) := fun X hX => by
    have h2 := (hX.block w.heap.size (by omega)).trans h0
    exact ⟨⟨block_cell h2 rfl, block_cell h2 rfl, block_cell h2 rfl⟩, (hX.block (w.heap.size + 1) (by omega)).trans h1⟩
  have HM := Lib.hid (rmany5_any k _ l W0 (HL.below hb0 (Nat.le_refl _)) hl hb)
  have HB0 := Lib.hid hb0
  have HW0 := Lib.hid hW0
  have hk3 : (k == 3) = false := by rcases hk with rfl | rfl <;> rfl
  have hk4 : (k == 4) = false := by rcases hk with rfl | rfl <;> rfl
  have HZ := Lib.hid hz
  clear HU HL hb0 h0 h1 hW0 hl hb hk
  obtain ⟨R, hR⟩ : ∃ R, manyR k l = R := ⟨_, rfl⟩
  rw [hR] at HM ⊢
  clear hR
  obtain ⟨r1, r2⟩ := R
  simp only at HM ⊢
  go_enter Try.func96, Try.ntmps96
  go_upto_region 1 with fail
  rw [HW0.out]
  obtain ⟨⟨p0, p1, p2⟩, q0⟩ := HX.out W0 (Below.refl _ _)
  go_wp2_with (go_at_call 129; refine HM.out.mono ?_; rintro e w1 ⟨u1, rfl, ho1, hb1⟩; clear p0 p1 p2 q0; obtain ⟨⟨p0, p1, p2⟩, q0⟩ := HX.out w1 hb1; have HO1 := Lib.hid ho1; have HB1 := Lib.hid hb1; obtain ⟨ua, uc, rfl⟩ := own_shC ho1; clear ho1 hb1)
  have e0 : w1.cell? ⟨w.heap.size + 1, 0, none⟩ = some (.int .i64 0) := block_cell q0 rfl
  have e1 : w1.cell? ⟨w.heap.size + 1, 1, none⟩ = some (.int .u8 0) := block_cell q0 rfl
  have e2 : w1.cell? ⟨w.heap.size + 1, 2, none⟩ = some (.slice none 0 0) := block_cell q0 rfl
  have f0 : w1.frozen? ⟨w.heap.size + 1, 0, none⟩ = false := by simp [World.frozen?, q0]
  have f1 : w1.frozen? ⟨w.heap.size + 1, 1, none⟩ = false := by simp [World.frozen?, q0]
  have f2 : w1.frozen? ⟨w.heap.size + 1, 2, none⟩ = false := by simp [World.frozen?, q0]
  have HQ := Lib.hid q0
  clear q0 hz
  have HST := Lib.hid (set3 (T := 71) (x := .int .i64 g1) (y := .int .u8 k) (z := .slice ua r2.length uc) HQ.out)
  go_region
  have hbz := HZ.out
  have HKP := Lib.hid (set3_kept w1 (w.heap.size + 1) (.int .i64 g1) (.int .u8 k) (.slice ua r2.length uc))
  generalize ((w1.setCell ⟨w.heap.size + 1, 0, none⟩ (.int .i64 g1)).setCell ⟨w.heap.size + 1, 1, none⟩ (.int .u8 k)).setCell ⟨w.heap.size + 1, 2, none⟩ (.slice ua r2.length uc) = wf at *
  have s0 : wf.drew.cell? ⟨w.heap.size + 1, 0, none⟩ = some (.int .i64 g1) := block_cell (W := wf) HST.out rfl
  have s1 : wf.drew.cell? ⟨w.heap.size + 1, 1, none⟩ = some (.int .u8 k) := block_cell (W := wf) HST.out rfl
  have s2 : wf.drew.cell? ⟨w.heap.size + 1, 2, none⟩ = some (.slice ua r2.length uc) := block_cell (W := wf) HST.out rfl
  have hk2 : Kept (fun i => i = w.heap.size + 1) w1 wf.drew := HKP.out.trans (Kept.quiet0 _ ⟨1, rfl⟩)
  have HOF := Lib.hid ((hk2.row HO1.out (fun g hg e => by have := (HO1.out.lt g hg).1; omega) : wf.drew.ownsRow _ _ _ _ _ _))
  have HBF := Lib.hid (HB0.out.trans ((HB1.out.mono HB0.out.size).trans (hk2.below (by have := HB1.out.size; omega) (fun i hi e => by omega))))
  clear hk2
  go_wp2
  refine ⟨rfl, .tuple #[.int .i64 r1, .agg #[.int .i64 g1, .int .u8 k, .slice ua r2.length uc]], by simp [results, Try.f96, go_sem, s0, s1, s2], ?_⟩
  exact ⟨_, _, _, _, _, rfl, HBF.out, fun _ => ⟨rfl, rfl, .inl (Own.mono (show Own wf.drew W0.heap.size _ r2 from HOF.out) (by omega))⟩⟩
end Go.Proofs.Yticcikelapifaaa

/- The reference's meaning at exclusive ors (layer 5). -/
namespace Go.Proofs.Yticcikelapifaaa
open Go.RowKit Go.Maps Go.Shelf
set_option linter.unusedVariables false
set_option linter.unusedSimpArgs false

theorem mean_cells {W0 : World} {n : Nat} {x y z : Value} (h0 : W0.heap[n]? = some (.cells #[x, y, z] 71 (0, 0))) (h1 : W0.heap[n + 1]? = some (.cells #[.int .i64 0, .int .u8 0, .slice none 0 0] 71 (0, 0))) (hz : W0.heap.size = n + 2) :
    ∀ X, Below W0.heap.size W0 X → (X.cell? ⟨n, 0, none⟩ = some x ∧ X.cell? ⟨n, 1, none⟩ = some y ∧ X.cell? ⟨n, 2, none⟩ = some z) ∧ X.heap[n + 1]? = some (.cells #[.int .i64 0, .int .u8 0, .slice none 0 0] 71 (0, 0)) := fun X hX => by
  have h2 := (hX.block n (by omega)).trans h0
  exact ⟨⟨block_cell h2 rfl, block_cell h2 rfl, block_cell h2 rfl⟩, (hX.block (n + 1) (by omega)).trans h1⟩
/-- What an exclusive or means, or 0. -/
def xorM (a b : Int) : Int := if a = -1000000 then b else if a = 1000000 then -b else if b = -1000000 then a else if b = 1000000 then -a else if a = b then -1000000 else if a = -b then 1000000 else 0
set_option maxHeartbeats 6400000 in
set_option maxRecDepth 100000 in
theorem rmean_xor (g1 a b : Int) (ug ul : Value) (gl : List Int) (w : World) (HU : IsInts w ug gl) (HL : IsInts w ul [a, b]) (ha : (-1000000 ≤ a ∧ a ≤ 1000000) ∧ a ≠ 0) (hb : (-1000000 ≤ b ∧ b ≤ 1000000) ∧ b ≠ 0) :
    Calls Try.prog 96 #[.agg #[.int .i64 g1, .int .u8 3, ug], ul] w (MeanPost ul [a, b] w g1 (xorM a b) 3 [a, b]) := by
  obtain ⟨ga, gc, rfl⟩ := HU.shape
  obtain ⟨la, lc, rfl⟩ := HL.shape
  obtain ⟨W0, hW0⟩ : ∃ W0, (w.alloc (.cells #[.int .i64 g1, .int .u8 3, .slice ga gl.length gc] 71)).alloc (.cells #[.int .i64 0, .int .u8 0, .slice none 0 0] 71) = W0 := ⟨_, rfl⟩
  have hb0 : Below w.heap.size w W0 := by rw [← hW0]; exact ((Below.refl w.heap.size w).alloc (Nat.le_refl _) _).alloc (by simp) _
  have hz : W0.heap.size = w.heap.size + 2 := by rw [← hW0]; simp
  have h0 : W0.heap[w.heap.size]? = some (.cells #[.int .i64 g1, .int .u8 3, .slice ga gl.length gc] 71 (0, 0)) := by
    rw [← hW0, Below.heap_alloc _ _ _ (by simp)]; exact heap_hit rfl
  have h1 : W0.heap[w.heap.size + 1]? = some (.cells #[.int .i64 0, .int .u8 0, .slice none 0 0] 71 (0, 0)) := by rw [← hW0]; exact heap_hit (by simp)
  have HX := Lib.hid (mean_cells h0 h1 hz)
  have HB0 := Lib.hid hb0
  have HW0 := Lib.hid hW0
  have HZ := Lib.hid hz
  have HLW := Lib.hid HL
  have HC : Hid (∀ X, Below w.heap.size w X → ∀ j, j < 2 → ∃ bk off, la = some ⟨bk, off, none⟩ ∧ X.cell? ⟨bk, off + j, none⟩ = some (.int .i64 (([a, b] : List Int).getD j 0))) := fun X hX j hj => by
    obtain ⟨bk, off, e, hbk, hc⟩ := HL.cellY (k := j) (by simpa using hj)
    exact ⟨bk, off, e, (hX.cell (p := ⟨bk, off + j, none⟩) hbk).trans hc⟩
  clear HU HL h0 h1 hW0 hz hb0
  have HA := Lib.hid ha
  have HBB := Lib.hid hb
  obtain ⟨⟨hb1, hb2⟩, hb3⟩ := hb
  obtain ⟨⟨ha1, ha2⟩, ha3⟩ := ha
  have HRD : Hid (xorM a b = if a = -1000000 then b else if a = 1000000 then -b else if b = -1000000 then a else if b = 1000000 then -a else if a = b then -1000000 else if a = -b then 1000000 else 0) := rfl
  obtain ⟨R, hR⟩ : ∃ R, xorM a b = R := ⟨_, rfl⟩
  rw [hR] at HRD ⊢
  clear hR
  rw [show ([a, b] : List Int).length = 2 from rfl] at *
  go_enter Try.func96, Try.ntmps96
  go_upto_region 1 with fail
  rw [HW0.out]
  obtain ⟨⟨p0, p1, p2⟩, q0⟩ := HX.out W0 (Below.refl _ _)
  obtain ⟨b0, off, rfl, c0⟩ := HC.out W0 HB0.out 0 (by decide)
  obtain ⟨b0', off', e, c1⟩ := HC.out W0 HB0.out 1 (by decide)
  injection e with e
  injection e with e1 e2 _
  subst e1; subst e2
  rw [show ([a, b] : List Int).getD 0 0 = a from rfl, Nat.add_zero] at c0
  rw [show ([a, b] : List Int).getD 1 0 = b from rfl] at c1
  clear q0
  go_upto_region 3 with fail
  go_quiet (fail)
  generalize hwq : W0.drewN _ = wq at *
  have HBQ : Hid (Below W0.heap.size W0 wq) := by show Below _ _ _; rw [← hwq]; exact Quiet.below ⟨_, rfl⟩ _
  clear p0 p1 p2 c0 c1 hwq
  obtain ⟨⟨p0, p1, p2⟩, q0⟩ := HX.out wq HBQ.out
  have HQ := Lib.hid q0
  have e0 : wq.cell? ⟨w.heap.size + 1, 0, none⟩ = some (.int .i64 0) := block_cell q0 rfl
  have e1 : wq.cell? ⟨w.heap.size + 1, 1, none⟩ = some (.int .u8 0) := block_cell q0 rfl
  have e2 : wq.cell? ⟨w.heap.size + 1, 2, none⟩ = some (.slice none 0 0) := block_cell q0 rfl
  have f0 : wq.frozen? ⟨w.heap.size + 1, 0, none⟩ = false := by simp [World.frozen?, q0]
  have f1 : wq.frozen? ⟨w.heap.size + 1, 1, none⟩ = false := by simp [World.frozen?, q0]
  have f2 : wq.frozen? ⟨w.heap.size + 1, 2, none⟩ = false := by simp [World.frozen?, q0]
  clear q0
  by_cases k0 : a = -1000000
  · have t0 : (a == -1000000) = true := by simpa using k0
    have HR : Hid (R = b) := by show _ = _; rw [HRD.out, if_pos k0]
    clear k0
    go_wp2
    have HST := Lib.hid (set3 (T := 71) (x := .int .i64 g1) (y := .int .u8 3) (z := .slice ga gl.length gc) HQ.out)
    have HKP := Lib.hid (set3_kept wq (w.heap.size + 1) (.int .i64 g1) (.int .u8 3) (.slice ga gl.length gc))
    go_region
    have hbz := HZ.out
    generalize ((wq.setCell ⟨w.heap.size + 1, 0, none⟩ (.int .i64 g1)).setCell ⟨w.heap.size + 1, 1, none⟩ (.int .u8 3)).setCell ⟨w.heap.size + 1, 2, none⟩ (.slice ga gl.length gc) = wf at *
    have s0 : wf.drew.cell? ⟨w.heap.size + 1, 0, none⟩ = some (.int .i64 g1) := block_cell (W := wf) HST.out rfl
    have s1 : wf.drew.cell? ⟨w.heap.size + 1, 1, none⟩ = some (.int .u8 3) := block_cell (W := wf) HST.out rfl
    have s2 : wf.drew.cell? ⟨w.heap.size + 1, 2, none⟩ = some (.slice ga gl.length gc) := block_cell (W := wf) HST.out rfl
    have HK2 : Hid (Kept (fun i => i = w.heap.size + 1) wq wf.drew) := HKP.out.trans (Kept.quiet0 _ ⟨1, rfl⟩)
    have HBF := Lib.hid (HB0.out.trans ((HBQ.out.mono HB0.out.size).trans (HK2.out.below (by have := HBQ.out.size; omega) (fun i hi e => by omega))))
    go_wp2
    refine ⟨rfl, .tuple #[.int .i64 b, .agg #[.int .i64 g1, .int .u8 3, .slice ga gl.length gc]], by simp [results, Try.f96, go_sem, s0, s1, s2], ?_⟩
    exact ⟨_, _, _, _, _, by rw [HR.out], HBF.out, fun h => absurd (by rw [HR.out] at h; exact h) (HBB.out.2)⟩
  have t0 : (a == -1000000) = false := by simpa using k0
  by_cases k1 : a = 1000000
  · have t1 : (a == 1000000) = true := by simpa using k1
    have HR : Hid (R = (-b)) := by show _ = _; rw [HRD.out, if_neg k0, if_pos k1]
    clear k0 k1
    go_wp2
    have HST := Lib.hid (set3 (T := 71) (x := .int .i64 g1) (y := .int .u8 3) (z := .slice ga gl.length gc) HQ.out)
    have HKP := Lib.hid (set3_kept wq (w.heap.size + 1) (.int .i64 g1) (.int .u8 3) (.slice ga gl.length gc))
    go_region
    have hbz := HZ.out
    generalize ((wq.setCell ⟨w.heap.size + 1, 0, none⟩ (.int .i64 g1)).setCell ⟨w.heap.size + 1, 1, none⟩ (.int .u8 3)).setCell ⟨w.heap.size + 1, 2, none⟩ (.slice ga gl.length gc) = wf at *
    have s0 : wf.drew.cell? ⟨w.heap.size + 1, 0, none⟩ = some (.int .i64 g1) := block_cell (W := wf) HST.out rfl
    have s1 : wf.drew.cell? ⟨w.heap.size + 1, 1, none⟩ = some (.int .u8 3) := block_cell (W := wf) HST.out rfl
    have s2 : wf.drew.cell? ⟨w.heap.size + 1, 2, none⟩ = some (.slice ga gl.length gc) := block_cell (W := wf) HST.out rfl
    have HK2 : Hid (Kept (fun i => i = w.heap.size + 1) wq wf.drew) := HKP.out.trans (Kept.quiet0 _ ⟨1, rfl⟩)
    have HBF := Lib.hid (HB0.out.trans ((HBQ.out.mono HB0.out.size).trans (HK2.out.below (by have := HBQ.out.size; omega) (fun i hi e => by omega))))
    go_wp2
    refine ⟨rfl, .tuple #[.int .i64 (-b), .agg #[.int .i64 g1, .int .u8 3, .slice ga gl.length gc]], by simp [results, Try.f96, go_sem, s0, s1, s2], ?_⟩
    exact ⟨_, _, _, _, _, by rw [HR.out], HBF.out, fun h => absurd (by rw [HR.out] at h; exact h) (by have := HBB.out.2; omega)⟩
  have t1 : (a == 1000000) = false := by simpa using k1
  by_cases k2 : b = -1000000
  · have t2 : (b == -1000000) = true := by simpa using k2
    have HR : Hid (R = a) := by show _ = _; rw [HRD.out, if_neg k0, if_neg k1, if_pos k2]
    clear k0 k1 k2
    go_wp2
    have HST := Lib.hid (set3 (T := 71) (x := .int .i64 g1) (y := .int .u8 3) (z := .slice ga gl.length gc) HQ.out)
    have HKP := Lib.hid (set3_kept wq (w.heap.size + 1) (.int .i64 g1) (.int .u8 3) (.slice ga gl.length gc))
    go_region
    have hbz := HZ.out
    generalize ((wq.setCell ⟨w.heap.size + 1, 0, none⟩ (.int .i64 g1)).setCell ⟨w.heap.size + 1, 1, none⟩ (.int .u8 3)).setCell ⟨w.heap.size + 1, 2, none⟩ (.slice ga gl.length gc) = wf at *
    have s0 : wf.drew.cell? ⟨w.heap.size + 1, 0, none⟩ = some (.int .i64 g1) := block_cell (W := wf) HST.out rfl
    have s1 : wf.drew.cell? ⟨w.heap.size + 1, 1, none⟩ = some (.int .u8 3) := block_cell (W := wf) HST.out rfl
    have s2 : wf.drew.cell? ⟨w.heap.size + 1, 2, none⟩ = some (.slice ga gl.length gc) := block_cell (W := wf) HST.out rfl
    have HK2 : Hid (Kept (fun i => i = w.heap.size + 1) wq wf.drew) := HKP.out.trans (Kept.quiet0 _ ⟨1, rfl⟩)
    have HBF := Lib.hid (HB0.out.trans ((HBQ.out.mono HB0.out.size).trans (HK2.out.below (by have := HBQ.out.size; omega) (fun i hi e => by omega))))
    go_wp2
    refine ⟨rfl, .tuple #[.int .i64 a, .agg #[.int .i64 g1, .int .u8 3, .slice ga gl.length gc]], by simp [results, Try.f96, go_sem, s0, s1, s2], ?_⟩
    exact ⟨_, _, _, _, _, by rw [HR.out], HBF.out, fun h => absurd (by rw [HR.out] at h; exact h) (HA.out.2)⟩
  have t2 : (b == -1000000) = false := by simpa using k2
  by_cases k3 : b = 1000000
  · have t3 : (b == 1000000) = true := by simpa using k3
    have HR : Hid (R = (-a)) := by show _ = _; rw [HRD.out, if_neg k0, if_neg k1, if_neg k2, if_pos k3]
    clear k0 k1 k2 k3
    go_wp2
    have HST := Lib.hid (set3 (T := 71) (x := .int .i64 g1) (y := .int .u8 3) (z := .slice ga gl.length gc) HQ.out)
    have HKP := Lib.hid (set3_kept wq (w.heap.size + 1) (.int .i64 g1) (.int .u8 3) (.slice ga gl.length gc))
    go_region
    have hbz := HZ.out
    generalize ((wq.setCell ⟨w.heap.size + 1, 0, none⟩ (.int .i64 g1)).setCell ⟨w.heap.size + 1, 1, none⟩ (.int .u8 3)).setCell ⟨w.heap.size + 1, 2, none⟩ (.slice ga gl.length gc) = wf at *
    have s0 : wf.drew.cell? ⟨w.heap.size + 1, 0, none⟩ = some (.int .i64 g1) := block_cell (W := wf) HST.out rfl
    have s1 : wf.drew.cell? ⟨w.heap.size + 1, 1, none⟩ = some (.int .u8 3) := block_cell (W := wf) HST.out rfl
    have s2 : wf.drew.cell? ⟨w.heap.size + 1, 2, none⟩ = some (.slice ga gl.length gc) := block_cell (W := wf) HST.out rfl
    have HK2 : Hid (Kept (fun i => i = w.heap.size + 1) wq wf.drew) := HKP.out.trans (Kept.quiet0 _ ⟨1, rfl⟩)
    have HBF := Lib.hid (HB0.out.trans ((HBQ.out.mono HB0.out.size).trans (HK2.out.below (by have := HBQ.out.size; omega) (fun i hi e => by omega))))
    go_wp2
    refine ⟨rfl, .tuple #[.int .i64 (-a), .agg #[.int .i64 g1, .int .u8 3, .slice ga gl.length gc]], by simp [results, Try.f96, go_sem, s0, s1, s2], ?_⟩
    exact ⟨_, _, _, _, _, by rw [HR.out], HBF.out, fun h => absurd (by rw [HR.out] at h; exact h) (by have := HA.out.2; omega)⟩
  have t3 : (b == 1000000) = false := by simpa using k3
  by_cases k4 : a = b
  · have t4 : (a == b) = true := by simpa using k4
    have HR : Hid (R = (-1000000)) := by show _ = _; rw [HRD.out, if_neg k0, if_neg k1, if_neg k2, if_neg k3, if_pos k4]
    clear k0 k1 k2 k3 k4
    go_wp2
    have HST := Lib.hid (set3 (T := 71) (x := .int .i64 g1) (y := .int .u8 3) (z := .slice ga gl.length gc) HQ.out)
    have HKP := Lib.hid (set3_kept wq (w.heap.size + 1) (.int .i64 g1) (.int .u8 3) (.slice ga gl.length gc))
    go_region
    have hbz := HZ.out
    generalize ((wq.setCell ⟨w.heap.size + 1, 0, none⟩ (.int .i64 g1)).setCell ⟨w.heap.size + 1, 1, none⟩ (.int .u8 3)).setCell ⟨w.heap.size + 1, 2, none⟩ (.slice ga gl.length gc) = wf at *
    have s0 : wf.drew.cell? ⟨w.heap.size + 1, 0, none⟩ = some (.int .i64 g1) := block_cell (W := wf) HST.out rfl
    have s1 : wf.drew.cell? ⟨w.heap.size + 1, 1, none⟩ = some (.int .u8 3) := block_cell (W := wf) HST.out rfl
    have s2 : wf.drew.cell? ⟨w.heap.size + 1, 2, none⟩ = some (.slice ga gl.length gc) := block_cell (W := wf) HST.out rfl
    have HK2 : Hid (Kept (fun i => i = w.heap.size + 1) wq wf.drew) := HKP.out.trans (Kept.quiet0 _ ⟨1, rfl⟩)
    have HBF := Lib.hid (HB0.out.trans ((HBQ.out.mono HB0.out.size).trans (HK2.out.below (by have := HBQ.out.size; omega) (fun i hi e => by omega))))
    go_wp2
    refine ⟨rfl, .tuple #[.int .i64 (-1000000), .agg #[.int .i64 g1, .int .u8 3, .slice ga gl.length gc]], by simp [results, Try.f96, go_sem, s0, s1, s2], ?_⟩
    exact ⟨_, _, _, _, _, by rw [HR.out], HBF.out, fun h => absurd (by rw [HR.out] at h; exact h) (by decide)⟩
  have t4 : (a == b) = false := by simpa using k4
  by_cases k5 : a = -b
  · have t5 : (a == -b) = true := by simpa using k5
    have HR : Hid (R = 1000000) := by show _ = _; rw [HRD.out, if_neg k0, if_neg k1, if_neg k2, if_neg k3, if_neg k4, if_pos k5]
    clear k0 k1 k2 k3 k4 k5
    go_wp2
    have HST := Lib.hid (set3 (T := 71) (x := .int .i64 g1) (y := .int .u8 3) (z := .slice ga gl.length gc) HQ.out)
    have HKP := Lib.hid (set3_kept wq (w.heap.size + 1) (.int .i64 g1) (.int .u8 3) (.slice ga gl.length gc))
    go_region
    have hbz := HZ.out
    generalize ((wq.setCell ⟨w.heap.size + 1, 0, none⟩ (.int .i64 g1)).setCell ⟨w.heap.size + 1, 1, none⟩ (.int .u8 3)).setCell ⟨w.heap.size + 1, 2, none⟩ (.slice ga gl.length gc) = wf at *
    have s0 : wf.drew.cell? ⟨w.heap.size + 1, 0, none⟩ = some (.int .i64 g1) := block_cell (W := wf) HST.out rfl
    have s1 : wf.drew.cell? ⟨w.heap.size + 1, 1, none⟩ = some (.int .u8 3) := block_cell (W := wf) HST.out rfl
    have s2 : wf.drew.cell? ⟨w.heap.size + 1, 2, none⟩ = some (.slice ga gl.length gc) := block_cell (W := wf) HST.out rfl
    have HK2 : Hid (Kept (fun i => i = w.heap.size + 1) wq wf.drew) := HKP.out.trans (Kept.quiet0 _ ⟨1, rfl⟩)
    have HBF := Lib.hid (HB0.out.trans ((HBQ.out.mono HB0.out.size).trans (HK2.out.below (by have := HBQ.out.size; omega) (fun i hi e => by omega))))
    go_wp2
    refine ⟨rfl, .tuple #[.int .i64 1000000, .agg #[.int .i64 g1, .int .u8 3, .slice ga gl.length gc]], by simp [results, Try.f96, go_sem, s0, s1, s2], ?_⟩
    exact ⟨_, _, _, _, _, by rw [HR.out], HBF.out, fun h => absurd (by rw [HR.out] at h; exact h) (by decide)⟩
  have t5 : (a == -b) = false := by simpa using k5
  have HR : Hid (R = 0) := by show _ = _; rw [HRD.out, if_neg k0, if_neg k1, if_neg k2, if_neg k3, if_neg k4, if_neg k5]
  clear k0 k1 k2 k3 k4 k5
  go_wp2
  have HST := Lib.hid (set3 (T := 71) (x := .int .i64 g1) (y := .int .u8 3) (z := .slice (some ⟨b0, off, none⟩) 2 lc) HQ.out)
  have HKP := Lib.hid (set3_kept wq (w.heap.size + 1) (.int .i64 g1) (.int .u8 3) (.slice (some ⟨b0, off, none⟩) 2 lc))
  go_region
  have hbz := HZ.out
  generalize ((wq.setCell ⟨w.heap.size + 1, 0, none⟩ (.int .i64 g1)).setCell ⟨w.heap.size + 1, 1, none⟩ (.int .u8 3)).setCell ⟨w.heap.size + 1, 2, none⟩ (.slice (some ⟨b0, off, none⟩) 2 lc) = wf at *
  have s0 : wf.drew.cell? ⟨w.heap.size + 1, 0, none⟩ = some (.int .i64 g1) := block_cell (W := wf) HST.out rfl
  have s1 : wf.drew.cell? ⟨w.heap.size + 1, 1, none⟩ = some (.int .u8 3) := block_cell (W := wf) HST.out rfl
  have s2 : wf.drew.cell? ⟨w.heap.size + 1, 2, none⟩ = some (.slice (some ⟨b0, off, none⟩) 2 lc) := block_cell (W := wf) HST.out rfl
  have HK2 : Hid (Kept (fun i => i = w.heap.size + 1) wq wf.drew) := HKP.out.trans (Kept.quiet0 _ ⟨1, rfl⟩)
  have HBF := Lib.hid (HB0.out.trans ((HBQ.out.mono HB0.out.size).trans (HK2.out.below (by have := HBQ.out.size; omega) (fun i hi e => by omega))))
  go_wp2
  refine ⟨rfl, .tuple #[.int .i64 0, .agg #[.int .i64 g1, .int .u8 3, .slice (some ⟨b0, off, none⟩) 2 lc]], by simp [results, Try.f96, go_sem, s0, s1, s2], ?_⟩
  exact ⟨_, _, _, _, _, by rw [HR.out], HBF.out, fun _ => ⟨rfl, rfl, .inr ⟨rfl, rfl⟩⟩⟩
end Go.Proofs.Yticcikelapifaaa

/- The reference's meaning at choices (layer 5). -/
namespace Go.Proofs.Yticcikelapifaaa
open Go.RowKit Go.Maps Go.Shelf
set_option linter.unusedVariables false
set_option linter.unusedSimpArgs false

theorem two_ints (w : World) {x y : Int} (hx : -9223372036854775808 ≤ x ∧ x ≤ 9223372036854775807) (hy : -9223372036854775808 ≤ y ∧ y ≤ 9223372036854775807) : IsInts (w.alloc (.cells #[.int .i64 x, .int .i64 y] 3)) (.slice (some ⟨w.heap.size, 0, none⟩) 2 2) [x, y] :=
  ⟨_, 2, rfl, ⟨Nat.le_refl _, fun h => by cases h⟩, by omega, by simp, fun z hz => by
    rcases List.mem_cons.1 hz with h | h
    · subst h; exact hx
    · rw [List.mem_singleton] at h; subst h; exact hy, w.heap.size, 0, fun _ => ⟨rfl, by simp⟩, fun j hj => by
    match j, hj with
    | 0, _ => exact cell_fresh rfl
    | 1, _ => exact cell_fresh rfl⟩
def manyP (k : Int) (l : List Int) : Int × Int × List Int := ((manyR k l).1, k, (manyR k l).2)
/-- What a choice means, or 0, and the gate that stays. -/
def iteM (c a b : Int) : Int × Int × List Int := if c = 1000000 then (a, 4, []) else if c = -1000000 then (b, 4, []) else if a = b then (a, 4, []) else if a = 1000000 then manyP 2 [c, b] else if a = -1000000 then manyP 1 [-c, b] else if b = 1000000 then manyP 2 [-c, a] else if b = -1000000 then manyP 1 [c, a] else (0, 4, [c, a, b])
set_option maxHeartbeats 12800000 in
set_option maxRecDepth 100000 in
theorem rmean_ite (g1 c a b : Int) (ug ul : Value) (gl : List Int) (w : World) (HU : IsInts w ug gl) (HL : IsInts w ul [c, a, b]) (hc : (-1000000 ≤ c ∧ c ≤ 1000000) ∧ c ≠ 0) (ha : (-1000000 ≤ a ∧ a ≤ 1000000) ∧ a ≠ 0) (hb : (-1000000 ≤ b ∧ b ≤ 1000000) ∧ b ≠ 0) :
    Calls Try.prog 96 #[.agg #[.int .i64 g1, .int .u8 4, ug], ul] w (MeanPost ul [c, a, b] w g1 (iteM c a b).1 (iteM c a b).2.1 (iteM c a b).2.2) := by
  obtain ⟨ga, gc, rfl⟩ := HU.shape
  obtain ⟨la, lc, rfl⟩ := HL.shape
  obtain ⟨W0, hW0⟩ : ∃ W0, (w.alloc (.cells #[.int .i64 g1, .int .u8 4, .slice ga gl.length gc] 71)).alloc (.cells #[.int .i64 0, .int .u8 0, .slice none 0 0] 71) = W0 := ⟨_, rfl⟩
  have hb0 : Below w.heap.size w W0 := by rw [← hW0]; exact ((Below.refl w.heap.size w).alloc (Nat.le_refl _) _).alloc (by simp) _
  have hz : W0.heap.size = w.heap.size + 2 := by rw [← hW0]; simp
  have h0 : W0.heap[w.heap.size]? = some (.cells #[.int .i64 g1, .int .u8 4, .slice ga gl.length gc] 71 (0, 0)) := by
    rw [← hW0, Below.heap_alloc _ _ _ (by simp)]; exact heap_hit rfl
  have h1 : W0.heap[w.heap.size + 1]? = some (.cells #[.int .i64 0, .int .u8 0, .slice none 0 0] 71 (0, 0)) := by rw [← hW0]; exact heap_hit (by simp)
  have HX := Lib.hid (mean_cells h0 h1 hz)
  have HB0 := Lib.hid hb0
  have HW0 := Lib.hid hW0
  have HZ := Lib.hid hz
  have HLW := Lib.hid HL
  have HC : Hid (∀ X, Below w.heap.size w X → ∀ j, j < 3 → ∃ bk off, la = some ⟨bk, off, none⟩ ∧ X.cell? ⟨bk, off + j, none⟩ = some (.int .i64 (([c, a, b] : List Int).getD j 0))) := fun X hX j hj => by
    obtain ⟨bk, off, e, hbk, hc⟩ := HL.cellY (k := j) (by simpa using hj)
    exact ⟨bk, off, e, (hX.cell (p := ⟨bk, off + j, none⟩) hbk).trans hc⟩
  clear HU HL h0 h1 hW0 hz hb0
  have HA := Lib.hid ha
  have HBB := Lib.hid hb
  have HCC := Lib.hid hc
  obtain ⟨⟨hb1, hb2⟩, hb3⟩ := hb
  obtain ⟨⟨ha1, ha2⟩, ha3⟩ := ha
  obtain ⟨⟨hc1, hc2⟩, hc3⟩ := hc
  have HRD : Hid (iteM c a b = if c = 1000000 then (a, 4, []) else if c = -1000000 then (b, 4, []) else if a = b then (a, 4, []) else if a = 1000000 then manyP 2 [c, b] else if a = -1000000 then manyP 1 [-c, b] else if b = 1000000 then manyP 2 [-c, a] else if b = -1000000 then manyP 1 [c, a] else (0, 4, [c, a, b])) := rfl
  obtain ⟨R, hR⟩ : ∃ R, iteM c a b = R := ⟨_, rfl⟩
  rw [hR] at HRD ⊢
  clear hR
  have HMN : Hid (∀ (k x y : Int) (X : World), (-1000000 ≤ x ∧ x ≤ 1000000) → (-1000000 ≤ y ∧ y ≤ 1000000) → Calls Try.prog 129 #[.int .u8 k, .slice (some ⟨X.heap.size, 0, none⟩) 2 2] (X.alloc (.cells #[.int .i64 x, .int .i64 y] 3)) fun e w' => ∃ u, e = .returned (.tuple #[.int .i64 (manyR k [x, y]).1, u]) ∧ Own w' X.heap.size u (manyR k [x, y]).2 ∧ Below X.heap.size X w') := fun k x y X hx hy =>
    (rmany5_any k _ [x, y] _ (two_ints X (by omega) (by omega)) (by simp) (fun z hz => by
      rcases List.mem_cons.1 hz with h | h
      · subst h; exact hx
      · rw [List.mem_singleton] at h; subst h; exact hy)).mono (fun e w' => by
      rintro ⟨u, h1, h2, h3⟩
      have h4 : (X.alloc (.cells #[.int .i64 x, .int .i64 y] 3)).heap.size = X.heap.size + 1 := by simp
      exact ⟨u, h1, h2.mono (by omega), (below_new X _).trans (h3.mono (by omega))⟩)
  rw [show ([c, a, b] : List Int).length = 3 from rfl] at *
  go_enter Try.func96, Try.ntmps96
  go_upto_region 1 with fail
  rw [HW0.out]
  obtain ⟨⟨p0, p1, p2⟩, q0⟩ := HX.out W0 (Below.refl _ _)
  obtain ⟨b0, off, rfl, c0⟩ := HC.out W0 HB0.out 0 (by decide)
  obtain ⟨b0', off', e, c1⟩ := HC.out W0 HB0.out 1 (by decide)
  injection e with e
  injection e with e1 e2 _
  subst e1; subst e2
  obtain ⟨b0'', off'', e, c2⟩ := HC.out W0 HB0.out 2 (by decide)
  injection e with e
  injection e with e1 e2 _
  subst e1; subst e2
  rw [show ([c, a, b] : List Int).getD 0 0 = c from rfl, Nat.add_zero] at c0
  rw [show ([c, a, b] : List Int).getD 1 0 = a from rfl] at c1
  rw [show ([c, a, b] : List Int).getD 2 0 = b from rfl] at c2
  clear q0
  go_upto_region 18 with fail
  go_quiet (fail)
  generalize hwq : W0.drewN _ = wq at *
  have HBQ : Hid (Below W0.heap.size W0 wq) := by show Below _ _ _; rw [← hwq]; exact Quiet.below ⟨_, rfl⟩ _
  clear p0 p1 p2 c0 c1 c2 hwq
  obtain ⟨⟨p0, p1, p2⟩, q0⟩ := HX.out wq HBQ.out
  have HQ := Lib.hid q0
  have e0 : wq.cell? ⟨w.heap.size + 1, 0, none⟩ = some (.int .i64 0) := block_cell q0 rfl
  have e1 : wq.cell? ⟨w.heap.size + 1, 1, none⟩ = some (.int .u8 0) := block_cell q0 rfl
  have e2 : wq.cell? ⟨w.heap.size + 1, 2, none⟩ = some (.slice none 0 0) := block_cell q0 rfl
  have f0 : wq.frozen? ⟨w.heap.size + 1, 0, none⟩ = false := by simp [World.frozen?, q0]
  have f1 : wq.frozen? ⟨w.heap.size + 1, 1, none⟩ = false := by simp [World.frozen?, q0]
  have f2 : wq.frozen? ⟨w.heap.size + 1, 2, none⟩ = false := by simp [World.frozen?, q0]
  clear q0
  by_cases k0 : c = 1000000
  · have t0 : (c == 1000000) = true := by simpa using k0
    have HR : Hid (R = (a, 4, [])) := by show _ = _; rw [HRD.out, if_pos k0]
    clear k0
    go_wp2
    have HST := Lib.hid (set3 (T := 71) (x := .int .i64 g1) (y := .int .u8 4) (z := .slice ga gl.length gc) HQ.out)
    have HKP := Lib.hid (set3_kept wq (w.heap.size + 1) (.int .i64 g1) (.int .u8 4) (.slice ga gl.length gc))
    go_region
    have hbz := HZ.out
    generalize ((wq.setCell ⟨w.heap.size + 1, 0, none⟩ (.int .i64 g1)).setCell ⟨w.heap.size + 1, 1, none⟩ (.int .u8 4)).setCell ⟨w.heap.size + 1, 2, none⟩ (.slice ga gl.length gc) = wf at *
    have s0 : wf.drew.cell? ⟨w.heap.size + 1, 0, none⟩ = some (.int .i64 g1) := block_cell (W := wf) HST.out rfl
    have s1 : wf.drew.cell? ⟨w.heap.size + 1, 1, none⟩ = some (.int .u8 4) := block_cell (W := wf) HST.out rfl
    have s2 : wf.drew.cell? ⟨w.heap.size + 1, 2, none⟩ = some (.slice ga gl.length gc) := block_cell (W := wf) HST.out rfl
    have HK2 : Hid (Kept (fun i => i = w.heap.size + 1) wq wf.drew) := HKP.out.trans (Kept.quiet0 _ ⟨1, rfl⟩)
    have HBF := Lib.hid (HB0.out.trans ((HBQ.out.mono HB0.out.size).trans (HK2.out.below (by have := HBQ.out.size; omega) (fun i hi e => by omega))))
    go_wp2
    refine ⟨rfl, .tuple #[.int .i64 a, .agg #[.int .i64 g1, .int .u8 4, .slice ga gl.length gc]], by simp [results, Try.f96, go_sem, s0, s1, s2], ?_⟩
    exact ⟨_, _, _, _, _, by rw [HR.out], HBF.out, fun h => absurd (by rw [HR.out] at h; exact h) (HA.out.2)⟩
  have t0 : (c == 1000000) = false := by simpa using k0
  by_cases k1 : c = -1000000
  · have t1 : (c == -1000000) = true := by simpa using k1
    have HR : Hid (R = (b, 4, [])) := by show _ = _; rw [HRD.out, if_neg k0, if_pos k1]
    clear k0 k1
    go_wp2
    have HST := Lib.hid (set3 (T := 71) (x := .int .i64 g1) (y := .int .u8 4) (z := .slice ga gl.length gc) HQ.out)
    have HKP := Lib.hid (set3_kept wq (w.heap.size + 1) (.int .i64 g1) (.int .u8 4) (.slice ga gl.length gc))
    go_region
    have hbz := HZ.out
    generalize ((wq.setCell ⟨w.heap.size + 1, 0, none⟩ (.int .i64 g1)).setCell ⟨w.heap.size + 1, 1, none⟩ (.int .u8 4)).setCell ⟨w.heap.size + 1, 2, none⟩ (.slice ga gl.length gc) = wf at *
    have s0 : wf.drew.cell? ⟨w.heap.size + 1, 0, none⟩ = some (.int .i64 g1) := block_cell (W := wf) HST.out rfl
    have s1 : wf.drew.cell? ⟨w.heap.size + 1, 1, none⟩ = some (.int .u8 4) := block_cell (W := wf) HST.out rfl
    have s2 : wf.drew.cell? ⟨w.heap.size + 1, 2, none⟩ = some (.slice ga gl.length gc) := block_cell (W := wf) HST.out rfl
    have HK2 : Hid (Kept (fun i => i = w.heap.size + 1) wq wf.drew) := HKP.out.trans (Kept.quiet0 _ ⟨1, rfl⟩)
    have HBF := Lib.hid (HB0.out.trans ((HBQ.out.mono HB0.out.size).trans (HK2.out.below (by have := HBQ.out.size; omega) (fun i hi e => by omega))))
    go_wp2
    refine ⟨rfl, .tuple #[.int .i64 b, .agg #[.int .i64 g1, .int .u8 4, .slice ga gl.length gc]], by simp [results, Try.f96, go_sem, s0, s1, s2], ?_⟩
    exact ⟨_, _, _, _, _, by rw [HR.out], HBF.out, fun h => absurd (by rw [HR.out] at h; exact h) (HBB.out.2)⟩
  have t1 : (c == -1000000) = false := by simpa using k1
  by_cases k2 : a = b
  · have t2 : (a == b) = true := by simpa using k2
    have HR : Hid (R = (a, 4, [])) := by show _ = _; rw [HRD.out, if_neg k0, if_neg k1, if_pos k2]
    clear k0 k1 k2
    go_wp2
    have HST := Lib.hid (set3 (T := 71) (x := .int .i64 g1) (y := .int .u8 4) (z := .slice ga gl.length gc) HQ.out)
    have HKP := Lib.hid (set3_kept wq (w.heap.size + 1) (.int .i64 g1) (.int .u8 4) (.slice ga gl.length gc))
    go_region
    have hbz := HZ.out
    generalize ((wq.setCell ⟨w.heap.size + 1, 0, none⟩ (.int .i64 g1)).setCell ⟨w.heap.size + 1, 1, none⟩ (.int .u8 4)).setCell ⟨w.heap.size + 1, 2, none⟩ (.slice ga gl.length gc) = wf at *
    have s0 : wf.drew.cell? ⟨w.heap.size + 1, 0, none⟩ = some (.int .i64 g1) := block_cell (W := wf) HST.out rfl
    have s1 : wf.drew.cell? ⟨w.heap.size + 1, 1, none⟩ = some (.int .u8 4) := block_cell (W := wf) HST.out rfl
    have s2 : wf.drew.cell? ⟨w.heap.size + 1, 2, none⟩ = some (.slice ga gl.length gc) := block_cell (W := wf) HST.out rfl
    have HK2 : Hid (Kept (fun i => i = w.heap.size + 1) wq wf.drew) := HKP.out.trans (Kept.quiet0 _ ⟨1, rfl⟩)
    have HBF := Lib.hid (HB0.out.trans ((HBQ.out.mono HB0.out.size).trans (HK2.out.below (by have := HBQ.out.size; omega) (fun i hi e => by omega))))
    go_wp2
    refine ⟨rfl, .tuple #[.int .i64 a, .agg #[.int .i64 g1, .int .u8 4, .slice ga gl.length gc]], by simp [results, Try.f96, go_sem, s0, s1, s2], ?_⟩
    exact ⟨_, _, _, _, _, by rw [HR.out], HBF.out, fun h => absurd (by rw [HR.out] at h; exact h) (HA.out.2)⟩
  have t2 : (a == b) = false := by simpa using k2
  by_cases k3 : a = 1000000
  · have t3 : (a == 1000000) = true := by simpa using k3
    have HR : Hid (R = manyP 2 [c, b]) := by show _ = _; rw [HRD.out, if_neg k0, if_neg k1, if_neg k2, if_pos k3]
    clear k0 k1 k2 k3
    have HMM := Lib.hid (HMN.out 2 c b wq (by have := HCC.out; omega) (by have := HBB.out; omega))
    obtain ⟨RR, hRR⟩ : ∃ RR, manyR 2 [c, b] = RR := ⟨_, rfl⟩
    have HR2 : Hid (R = (RR.1, 2, RR.2)) := by show _ = _; rw [HR.out, ← hRR]; rfl
    rw [hRR] at HMM
    clear hRR HR
    obtain ⟨r1, r2⟩ := RR
    simp only at HMM HR2
    clear p0 p1 p2 e0 e1 e2 f0 f1 f2
    go_wp2_with (go_at_call 129; refine HMM.out.mono ?_; rintro e w1 ⟨u1, rfl, ho1, hb1x⟩; have HO1 := Lib.hid ho1; have HBQ1 := Lib.hid (HBQ.out.trans (hb1x.mono HBQ.out.size)); obtain ⟨ua, uc, rfl⟩ := own_shC ho1; clear ho1 hb1x)
    have HBQS := Lib.hid HBQ.out.size
    clear HQ HBQ
    generalize wq.heap.size = szq at *
    generalize w1 = wq at *
    have HBQ := HBQ1
    obtain ⟨⟨p0, p1, p2⟩, q0⟩ := HX.out wq HBQ.out
    have HQ := Lib.hid q0
    have e0 : wq.cell? ⟨w.heap.size + 1, 0, none⟩ = some (.int .i64 0) := block_cell q0 rfl
    have e1 : wq.cell? ⟨w.heap.size + 1, 1, none⟩ = some (.int .u8 0) := block_cell q0 rfl
    have e2 : wq.cell? ⟨w.heap.size + 1, 2, none⟩ = some (.slice none 0 0) := block_cell q0 rfl
    have f0 : wq.frozen? ⟨w.heap.size + 1, 0, none⟩ = false := by simp [World.frozen?, q0]
    have f1 : wq.frozen? ⟨w.heap.size + 1, 1, none⟩ = false := by simp [World.frozen?, q0]
    have f2 : wq.frozen? ⟨w.heap.size + 1, 2, none⟩ = false := by simp [World.frozen?, q0]
    clear q0
    have HST := Lib.hid (set3 (T := 71) (x := .int .i64 g1) (y := .int .u8 2) (z := .slice ua r2.length uc) HQ.out)
    have HKP := Lib.hid (set3_kept wq (w.heap.size + 1) (.int .i64 g1) (.int .u8 2) (.slice ua r2.length uc))
    go_region
    have hbz := HZ.out
    generalize ((wq.setCell ⟨w.heap.size + 1, 0, none⟩ (.int .i64 g1)).setCell ⟨w.heap.size + 1, 1, none⟩ (.int .u8 2)).setCell ⟨w.heap.size + 1, 2, none⟩ (.slice ua r2.length uc) = wf at *
    have s0 : wf.drew.cell? ⟨w.heap.size + 1, 0, none⟩ = some (.int .i64 g1) := block_cell (W := wf) HST.out rfl
    have s1 : wf.drew.cell? ⟨w.heap.size + 1, 1, none⟩ = some (.int .u8 2) := block_cell (W := wf) HST.out rfl
    have s2 : wf.drew.cell? ⟨w.heap.size + 1, 2, none⟩ = some (.slice ua r2.length uc) := block_cell (W := wf) HST.out rfl
    have HK2 : Hid (Kept (fun i => i = w.heap.size + 1) wq wf.drew) := HKP.out.trans (Kept.quiet0 _ ⟨1, rfl⟩)
    have HBF := Lib.hid (HB0.out.trans ((HBQ.out.mono HB0.out.size).trans (HK2.out.below (by have := HBQ.out.size; omega) (fun i hi e => by omega))))
    go_wp2
    have HOF := Lib.hid ((HK2.out.row HO1.out (fun g hg e => by have h8 := (HO1.out.lt g hg).1; have h9 := HBQS.out; omega) : wf.drew.ownsRow _ _ _ _ _ _))
    refine ⟨rfl, .tuple #[.int .i64 r1, .agg #[.int .i64 g1, .int .u8 2, .slice ua r2.length uc]], by simp [results, Try.f96, go_sem, s0, s1, s2], ?_⟩
    exact ⟨_, _, _, _, _, by rw [HR2.out], HBF.out, fun _ => by rw [HR2.out]; exact ⟨rfl, rfl, .inl (Own.mono (show Own wf.drew szq _ r2 from HOF.out) (by have h9 := HBQS.out; omega))⟩⟩
  have t3 : (a == 1000000) = false := by simpa using k3
  by_cases k4 : a = -1000000
  · have t4 : (a == -1000000) = true := by simpa using k4
    have HR : Hid (R = manyP 1 [-c, b]) := by show _ = _; rw [HRD.out, if_neg k0, if_neg k1, if_neg k2, if_neg k3, if_pos k4]
    clear k0 k1 k2 k3 k4
    have HMM := Lib.hid (HMN.out 1 (-c) b wq (by have := HCC.out; omega) (by have := HBB.out; omega))
    obtain ⟨RR, hRR⟩ : ∃ RR, manyR 1 [(-c), b] = RR := ⟨_, rfl⟩
    have HR2 : Hid (R = (RR.1, 1, RR.2)) := by show _ = _; rw [HR.out, ← hRR]; rfl
    rw [hRR] at HMM
    clear hRR HR
    obtain ⟨r1, r2⟩ := RR
    simp only at HMM HR2
    clear p0 p1 p2 e0 e1 e2 f0 f1 f2
    go_wp2_with (go_at_call 129; refine HMM.out.mono ?_; rintro e w1 ⟨u1, rfl, ho1, hb1x⟩; have HO1 := Lib.hid ho1; have HBQ1 := Lib.hid (HBQ.out.trans (hb1x.mono HBQ.out.size)); obtain ⟨ua, uc, rfl⟩ := own_shC ho1; clear ho1 hb1x)
    have HBQS := Lib.hid HBQ.out.size
    clear HQ HBQ
    generalize wq.heap.size = szq at *
    generalize w1 = wq at *
    have HBQ := HBQ1
    obtain ⟨⟨p0, p1, p2⟩, q0⟩ := HX.out wq HBQ.out
    have HQ := Lib.hid q0
    have e0 : wq.cell? ⟨w.heap.size + 1, 0, none⟩ = some (.int .i64 0) := block_cell q0 rfl
    have e1 : wq.cell? ⟨w.heap.size + 1, 1, none⟩ = some (.int .u8 0) := block_cell q0 rfl
    have e2 : wq.cell? ⟨w.heap.size + 1, 2, none⟩ = some (.slice none 0 0) := block_cell q0 rfl
    have f0 : wq.frozen? ⟨w.heap.size + 1, 0, none⟩ = false := by simp [World.frozen?, q0]
    have f1 : wq.frozen? ⟨w.heap.size + 1, 1, none⟩ = false := by simp [World.frozen?, q0]
    have f2 : wq.frozen? ⟨w.heap.size + 1, 2, none⟩ = false := by simp [World.frozen?, q0]
    clear q0
    have HST := Lib.hid (set3 (T := 71) (x := .int .i64 g1) (y := .int .u8 1) (z := .slice ua r2.length uc) HQ.out)
    have HKP := Lib.hid (set3_kept wq (w.heap.size + 1) (.int .i64 g1) (.int .u8 1) (.slice ua r2.length uc))
    go_region
    have hbz := HZ.out
    generalize ((wq.setCell ⟨w.heap.size + 1, 0, none⟩ (.int .i64 g1)).setCell ⟨w.heap.size + 1, 1, none⟩ (.int .u8 1)).setCell ⟨w.heap.size + 1, 2, none⟩ (.slice ua r2.length uc) = wf at *
    have s0 : wf.drew.cell? ⟨w.heap.size + 1, 0, none⟩ = some (.int .i64 g1) := block_cell (W := wf) HST.out rfl
    have s1 : wf.drew.cell? ⟨w.heap.size + 1, 1, none⟩ = some (.int .u8 1) := block_cell (W := wf) HST.out rfl
    have s2 : wf.drew.cell? ⟨w.heap.size + 1, 2, none⟩ = some (.slice ua r2.length uc) := block_cell (W := wf) HST.out rfl
    have HK2 : Hid (Kept (fun i => i = w.heap.size + 1) wq wf.drew) := HKP.out.trans (Kept.quiet0 _ ⟨1, rfl⟩)
    have HBF := Lib.hid (HB0.out.trans ((HBQ.out.mono HB0.out.size).trans (HK2.out.below (by have := HBQ.out.size; omega) (fun i hi e => by omega))))
    go_wp2
    have HOF := Lib.hid ((HK2.out.row HO1.out (fun g hg e => by have h8 := (HO1.out.lt g hg).1; have h9 := HBQS.out; omega) : wf.drew.ownsRow _ _ _ _ _ _))
    refine ⟨rfl, .tuple #[.int .i64 r1, .agg #[.int .i64 g1, .int .u8 1, .slice ua r2.length uc]], by simp [results, Try.f96, go_sem, s0, s1, s2], ?_⟩
    exact ⟨_, _, _, _, _, by rw [HR2.out], HBF.out, fun _ => by rw [HR2.out]; exact ⟨rfl, rfl, .inl (Own.mono (show Own wf.drew szq _ r2 from HOF.out) (by have h9 := HBQS.out; omega))⟩⟩
  have t4 : (a == -1000000) = false := by simpa using k4
  by_cases k5 : b = 1000000
  · have t5 : (b == 1000000) = true := by simpa using k5
    have HR : Hid (R = manyP 2 [-c, a]) := by show _ = _; rw [HRD.out, if_neg k0, if_neg k1, if_neg k2, if_neg k3, if_neg k4, if_pos k5]
    clear k0 k1 k2 k3 k4 k5
    have HMM := Lib.hid (HMN.out 2 (-c) a wq (by have := HCC.out; omega) (by have := HA.out; omega))
    obtain ⟨RR, hRR⟩ : ∃ RR, manyR 2 [(-c), a] = RR := ⟨_, rfl⟩
    have HR2 : Hid (R = (RR.1, 2, RR.2)) := by show _ = _; rw [HR.out, ← hRR]; rfl
    rw [hRR] at HMM
    clear hRR HR
    obtain ⟨r1, r2⟩ := RR
    simp only at HMM HR2
    clear p0 p1 p2 e0 e1 e2 f0 f1 f2
    go_wp2_with (go_at_call 129; refine HMM.out.mono ?_; rintro e w1 ⟨u1, rfl, ho1, hb1x⟩; have HO1 := Lib.hid ho1; have HBQ1 := Lib.hid (HBQ.out.trans (hb1x.mono HBQ.out.size)); obtain ⟨ua, uc, rfl⟩ := own_shC ho1; clear ho1 hb1x)
    have HBQS := Lib.hid HBQ.out.size
    clear HQ HBQ
    generalize wq.heap.size = szq at *
    generalize w1 = wq at *
    have HBQ := HBQ1
    obtain ⟨⟨p0, p1, p2⟩, q0⟩ := HX.out wq HBQ.out
    have HQ := Lib.hid q0
    have e0 : wq.cell? ⟨w.heap.size + 1, 0, none⟩ = some (.int .i64 0) := block_cell q0 rfl
    have e1 : wq.cell? ⟨w.heap.size + 1, 1, none⟩ = some (.int .u8 0) := block_cell q0 rfl
    have e2 : wq.cell? ⟨w.heap.size + 1, 2, none⟩ = some (.slice none 0 0) := block_cell q0 rfl
    have f0 : wq.frozen? ⟨w.heap.size + 1, 0, none⟩ = false := by simp [World.frozen?, q0]
    have f1 : wq.frozen? ⟨w.heap.size + 1, 1, none⟩ = false := by simp [World.frozen?, q0]
    have f2 : wq.frozen? ⟨w.heap.size + 1, 2, none⟩ = false := by simp [World.frozen?, q0]
    clear q0
    have HST := Lib.hid (set3 (T := 71) (x := .int .i64 g1) (y := .int .u8 2) (z := .slice ua r2.length uc) HQ.out)
    have HKP := Lib.hid (set3_kept wq (w.heap.size + 1) (.int .i64 g1) (.int .u8 2) (.slice ua r2.length uc))
    go_region
    have hbz := HZ.out
    generalize ((wq.setCell ⟨w.heap.size + 1, 0, none⟩ (.int .i64 g1)).setCell ⟨w.heap.size + 1, 1, none⟩ (.int .u8 2)).setCell ⟨w.heap.size + 1, 2, none⟩ (.slice ua r2.length uc) = wf at *
    have s0 : wf.drew.cell? ⟨w.heap.size + 1, 0, none⟩ = some (.int .i64 g1) := block_cell (W := wf) HST.out rfl
    have s1 : wf.drew.cell? ⟨w.heap.size + 1, 1, none⟩ = some (.int .u8 2) := block_cell (W := wf) HST.out rfl
    have s2 : wf.drew.cell? ⟨w.heap.size + 1, 2, none⟩ = some (.slice ua r2.length uc) := block_cell (W := wf) HST.out rfl
    have HK2 : Hid (Kept (fun i => i = w.heap.size + 1) wq wf.drew) := HKP.out.trans (Kept.quiet0 _ ⟨1, rfl⟩)
    have HBF := Lib.hid (HB0.out.trans ((HBQ.out.mono HB0.out.size).trans (HK2.out.below (by have := HBQ.out.size; omega) (fun i hi e => by omega))))
    go_wp2
    have HOF := Lib.hid ((HK2.out.row HO1.out (fun g hg e => by have h8 := (HO1.out.lt g hg).1; have h9 := HBQS.out; omega) : wf.drew.ownsRow _ _ _ _ _ _))
    refine ⟨rfl, .tuple #[.int .i64 r1, .agg #[.int .i64 g1, .int .u8 2, .slice ua r2.length uc]], by simp [results, Try.f96, go_sem, s0, s1, s2], ?_⟩
    exact ⟨_, _, _, _, _, by rw [HR2.out], HBF.out, fun _ => by rw [HR2.out]; exact ⟨rfl, rfl, .inl (Own.mono (show Own wf.drew szq _ r2 from HOF.out) (by have h9 := HBQS.out; omega))⟩⟩
  have t5 : (b == 1000000) = false := by simpa using k5
  by_cases k6 : b = -1000000
  · have t6 : (b == -1000000) = true := by simpa using k6
    have HR : Hid (R = manyP 1 [c, a]) := by show _ = _; rw [HRD.out, if_neg k0, if_neg k1, if_neg k2, if_neg k3, if_neg k4, if_neg k5, if_pos k6]
    clear k0 k1 k2 k3 k4 k5 k6
    have HMM := Lib.hid (HMN.out 1 c a wq (by have := HCC.out; omega) (by have := HA.out; omega))
    obtain ⟨RR, hRR⟩ : ∃ RR, manyR 1 [c, a] = RR := ⟨_, rfl⟩
    have HR2 : Hid (R = (RR.1, 1, RR.2)) := by show _ = _; rw [HR.out, ← hRR]; rfl
    rw [hRR] at HMM
    clear hRR HR
    obtain ⟨r1, r2⟩ := RR
    simp only at HMM HR2
    clear p0 p1 p2 e0 e1 e2 f0 f1 f2
    go_wp2_with (go_at_call 129; refine HMM.out.mono ?_; rintro e w1 ⟨u1, rfl, ho1, hb1x⟩; have HO1 := Lib.hid ho1; have HBQ1 := Lib.hid (HBQ.out.trans (hb1x.mono HBQ.out.size)); obtain ⟨ua, uc, rfl⟩ := own_shC ho1; clear ho1 hb1x)
    have HBQS := Lib.hid HBQ.out.size
    clear HQ HBQ
    generalize wq.heap.size = szq at *
    generalize w1 = wq at *
    have HBQ := HBQ1
    obtain ⟨⟨p0, p1, p2⟩, q0⟩ := HX.out wq HBQ.out
    have HQ := Lib.hid q0
    have e0 : wq.cell? ⟨w.heap.size + 1, 0, none⟩ = some (.int .i64 0) := block_cell q0 rfl
    have e1 : wq.cell? ⟨w.heap.size + 1, 1, none⟩ = some (.int .u8 0) := block_cell q0 rfl
    have e2 : wq.cell? ⟨w.heap.size + 1, 2, none⟩ = some (.slice none 0 0) := block_cell q0 rfl
    have f0 : wq.frozen? ⟨w.heap.size + 1, 0, none⟩ = false := by simp [World.frozen?, q0]
    have f1 : wq.frozen? ⟨w.heap.size + 1, 1, none⟩ = false := by simp [World.frozen?, q0]
    have f2 : wq.frozen? ⟨w.heap.size + 1, 2, none⟩ = false := by simp [World.frozen?, q0]
    clear q0
    have HST := Lib.hid (set3 (T := 71) (x := .int .i64 g1) (y := .int .u8 1) (z := .slice ua r2.length uc) HQ.out)
    have HKP := Lib.hid (set3_kept wq (w.heap.size + 1) (.int .i64 g1) (.int .u8 1) (.slice ua r2.length uc))
    go_region
    have hbz := HZ.out
    generalize ((wq.setCell ⟨w.heap.size + 1, 0, none⟩ (.int .i64 g1)).setCell ⟨w.heap.size + 1, 1, none⟩ (.int .u8 1)).setCell ⟨w.heap.size + 1, 2, none⟩ (.slice ua r2.length uc) = wf at *
    have s0 : wf.drew.cell? ⟨w.heap.size + 1, 0, none⟩ = some (.int .i64 g1) := block_cell (W := wf) HST.out rfl
    have s1 : wf.drew.cell? ⟨w.heap.size + 1, 1, none⟩ = some (.int .u8 1) := block_cell (W := wf) HST.out rfl
    have s2 : wf.drew.cell? ⟨w.heap.size + 1, 2, none⟩ = some (.slice ua r2.length uc) := block_cell (W := wf) HST.out rfl
    have HK2 : Hid (Kept (fun i => i = w.heap.size + 1) wq wf.drew) := HKP.out.trans (Kept.quiet0 _ ⟨1, rfl⟩)
    have HBF := Lib.hid (HB0.out.trans ((HBQ.out.mono HB0.out.size).trans (HK2.out.below (by have := HBQ.out.size; omega) (fun i hi e => by omega))))
    go_wp2
    have HOF := Lib.hid ((HK2.out.row HO1.out (fun g hg e => by have h8 := (HO1.out.lt g hg).1; have h9 := HBQS.out; omega) : wf.drew.ownsRow _ _ _ _ _ _))
    refine ⟨rfl, .tuple #[.int .i64 r1, .agg #[.int .i64 g1, .int .u8 1, .slice ua r2.length uc]], by simp [results, Try.f96, go_sem, s0, s1, s2], ?_⟩
    exact ⟨_, _, _, _, _, by rw [HR2.out], HBF.out, fun _ => by rw [HR2.out]; exact ⟨rfl, rfl, .inl (Own.mono (show Own wf.drew szq _ r2 from HOF.out) (by have h9 := HBQS.out; omega))⟩⟩
  have t6 : (b == -1000000) = false := by simpa using k6
  have HR : Hid (R = (0, 4, [c, a, b])) := by show _ = _; rw [HRD.out, if_neg k0, if_neg k1, if_neg k2, if_neg k3, if_neg k4, if_neg k5, if_neg k6]
  clear k0 k1 k2 k3 k4 k5 k6
  go_wp2
  have HST := Lib.hid (set3 (T := 71) (x := .int .i64 g1) (y := .int .u8 4) (z := .slice (some ⟨b0, off, none⟩) 3 lc) HQ.out)
  have HKP := Lib.hid (set3_kept wq (w.heap.size + 1) (.int .i64 g1) (.int .u8 4) (.slice (some ⟨b0, off, none⟩) 3 lc))
  go_region
  have hbz := HZ.out
  generalize ((wq.setCell ⟨w.heap.size + 1, 0, none⟩ (.int .i64 g1)).setCell ⟨w.heap.size + 1, 1, none⟩ (.int .u8 4)).setCell ⟨w.heap.size + 1, 2, none⟩ (.slice (some ⟨b0, off, none⟩) 3 lc) = wf at *
  have s0 : wf.drew.cell? ⟨w.heap.size + 1, 0, none⟩ = some (.int .i64 g1) := block_cell (W := wf) HST.out rfl
  have s1 : wf.drew.cell? ⟨w.heap.size + 1, 1, none⟩ = some (.int .u8 4) := block_cell (W := wf) HST.out rfl
  have s2 : wf.drew.cell? ⟨w.heap.size + 1, 2, none⟩ = some (.slice (some ⟨b0, off, none⟩) 3 lc) := block_cell (W := wf) HST.out rfl
  have HK2 : Hid (Kept (fun i => i = w.heap.size + 1) wq wf.drew) := HKP.out.trans (Kept.quiet0 _ ⟨1, rfl⟩)
  have HBF := Lib.hid (HB0.out.trans ((HBQ.out.mono HB0.out.size).trans (HK2.out.below (by have := HBQ.out.size; omega) (fun i hi e => by omega))))
  go_wp2
  refine ⟨rfl, .tuple #[.int .i64 0, .agg #[.int .i64 g1, .int .u8 4, .slice (some ⟨b0, off, none⟩) 3 lc]], by simp [results, Try.f96, go_sem, s0, s1, s2], ?_⟩
  exact ⟨_, _, _, _, _, by rw [HR.out], HBF.out, fun _ => by rw [HR.out]; exact ⟨rfl, rfl, .inr ⟨rfl, rfl⟩⟩⟩
end Go.Proofs.Yticcikelapifaaa

/- The reference's meaning at every kind (layer 5). -/
namespace Go.Proofs.Yticcikelapifaaa
open Go.RowKit Go.Maps Go.Shelf
set_option linter.unusedVariables false
set_option linter.unusedSimpArgs false

/-- What a gate of the kind k whose literals mean l means; if that is 0, the gate that stays. -/
def meanM (k : Int) (l : List Int) : Int × Int × List Int :=
  if k = 3 then (xorM (l.getD 0 0) (l.getD 1 0), 3, l) else if k = 4 then iteM (l.getD 0 0) (l.getD 1 0) (l.getD 2 0) else manyP k l
theorem rmeaning5_any (g1 k : Int) (ug ul : Value) (gl l : List Int) (w : World) (HU : IsInts w ug gl) (HL : IsInts w ul l) (hf : fitsB k l.length = true) (hl : l.length ≤ 4000000) (hb : ∀ x ∈ l, (-1000000 ≤ x ∧ x ≤ 1000000) ∧ x ≠ 0) :
    Calls Try.prog 96 #[.agg #[.int .i64 g1, .int .u8 k, ug], ul] w (MeanPost ul l w g1 (meanM k l).1 (meanM k l).2.1 (meanM k l).2.2) := by
  unfold fitsB at hf
  unfold meanM
  by_cases h12 : k = 1 ∨ k = 2
  · rw [if_neg (by omega), if_neg (by omega)]
    exact rmean_ao g1 k ug ul gl l w HU HL h12 hl (fun x hx => (hb x hx).1)
  · rw [if_neg h12] at hf
    by_cases h3 : k = 3
    · rw [if_pos h3, decide_eq_true_eq] at hf
      subst h3
      rw [if_pos rfl]
      match l, hf, HL, hb with
      | [a, b], _, HL, hb => exact rmean_xor g1 a b ug ul gl w HU HL (hb a (by simp)) (hb b (by simp))
    · rw [if_neg h3] at hf
      by_cases h4 : k = 4
      · rw [if_pos h4, decide_eq_true_eq] at hf
        subst h4
        rw [if_neg (by omega), if_pos rfl]
        match l, hf, HL, hb with
        | [c, a, b], _, HL, hb => exact rmean_ite g1 c a b ug ul gl w HU HL (hb c (by simp)) (hb a (by simp)) (hb b (by simp))
      · rw [if_neg h4] at hf
        cases hf
end Go.Proofs.Yticcikelapifaaa

/- The program's meanings and the reference's: the same, but for the numbers of true and false. -/
namespace Go.Proofs.Yticcikelapifaaa
open Go.RowKit
set_option linter.unusedVariables false
set_option linter.unusedSimpArgs false

def phi (x : Int) : Int := if x = 65537 then 1000000 else if x = -65537 then -1000000 else x
theorem phi_neg (x : Int) : phi (-x) = -phi x := by
  unfold phi
  repeat' split
  all_goals omega
theorem phi_inj {x y : Int} (hx : -65537 ≤ x ∧ x ≤ 65537) (hy : -65537 ≤ y ∧ y ≤ 65537) : phi x = phi y ↔ x = y := by
  unfold phi
  constructor
  · intro h
    split at h <;> split at h <;> (try split at h) <;> (try split at h) <;> omega
  · intro h; rw [h]
theorem phi_one {x : Int} (hx : -65537 ≤ x ∧ x ≤ 65537) : phi x = 1000000 ↔ x = 65537 := by unfold phi; split <;> (try split) <;> omega
theorem phi_two {x : Int} (hx : -65537 ≤ x ∧ x ≤ 65537) : phi x = -1000000 ↔ x = -65537 := by unfold phi; split <;> (try split) <;> omega
theorem phi_zero {x : Int} : phi x = 0 ↔ x = 0 := by unfold phi; split <;> (try split) <;> omega
theorem phi_id {x : Int} (h1 : x ≠ 65537) (h2 : x ≠ -65537) : phi x = x := by unfold phi; rw [if_neg h1, if_neg h2]
/-- The same meaning, or the same gate stays. -/
def SameMean (o : Oc) (r : Int × Int × List Int) : Prop := (o.1 = 0 ∧ r.1 = phi o.2.2 ∧ o.2.2 ≠ 0) ∨ (o.1 ≠ 0 ∧ r = (0, o.1, o.2.1))
theorem xor_same {a b : Int} (ha : (-65537 ≤ a ∧ a ≤ 65537) ∧ a ≠ 0) (hb : (-65537 ≤ b ∧ b ≤ 65537) ∧ b ≠ 0) : SameMean (xorF a b) (xorM (phi a) (phi b), 3, [phi a, phi b]) := by
  unfold xorF xorM SameMean
  simp only [phi_two ha.1, phi_one ha.1, phi_two hb.1, phi_one hb.1, phi_inj ha.1 hb.1, ← phi_neg, phi_inj ha.1 (show -65537 ≤ -b ∧ -b ≤ 65537 by omega)]
  split
  · exact .inl ⟨rfl, rfl, hb.2⟩
  · split
    · exact .inl ⟨rfl, rfl, by simpa using hb.2⟩
    · split
      · exact .inl ⟨rfl, rfl, ha.2⟩
      · split
        · exact .inl ⟨rfl, rfl, by simpa using ha.2⟩
        · split
          · exact .inl ⟨rfl, by decide, by decide⟩
          · split
            · exact .inl ⟨rfl, by decide, by decide⟩
            · rename_i h1 h2 h3 h4 _ _
              exact .inr ⟨(by show (3 : Int) ≠ 0; decide), by rw [phi_id h2 h1, phi_id h4 h3]⟩
/-- Numbers that are no constants. -/
def plainL (o : List Int) : Prop := ∀ x ∈ o, (-65537 < x ∧ x < 65537) ∧ x ≠ 0
theorem phi_mem {o : List Int} {x : Int} (ho : plainL o) (hx : -65537 ≤ x ∧ x ≤ 65537) : phi x ∈ o ↔ x ∈ o := by
  by_cases h1 : x = 65537
  · subst h1
    constructor
    · intro h; have := ho _ h; unfold phi at this; rw [if_pos rfl] at this; omega
    · intro h; have := ho _ h; omega
  · by_cases h2 : x = -65537
    · subst h2
      constructor
      · intro h; have := ho _ h; unfold phi at this; rw [if_neg (by omega), if_pos rfl] at this; omega
      · intro h; have := ho _ h; omega
    · rw [phi_id h1 h2]
theorem go_same {idle : Int} (hi : idle = 65537 ∨ idle = -65537) : ∀ (l o : List Int), (∀ x ∈ l, (-65537 ≤ x ∧ x ≤ 65537) ∧ x ≠ 0) → plainL o → manyGo (phi idle) o (l.map phi) = mrgL idle o l ∧ ∀ r, mrgL idle o l = some r → plainL r
  | [], o, _, ho => ⟨rfl, fun r h => by
    have : o = r := by simpa [mrgL] using h
    rw [← this]; exact ho⟩
  | x :: l, o, hl, ho => by
    have hx := hl x List.mem_cons_self
    have hib : -65537 ≤ idle ∧ idle ≤ 65537 := by omega
    have e1 : phi x = -phi idle ↔ x = -idle := by rw [← phi_neg]; exact phi_inj hx.1 (by omega)
    have e2 : -phi x ∈ o ↔ -x ∈ o := by rw [← phi_neg]; exact phi_mem ho (by omega)
    have e3 : phi x = phi idle ↔ x = idle := phi_inj hx.1 hib
    have e4 : phi x ∈ o ↔ x ∈ o := phi_mem ho hx.1
    rw [List.map_cons]
    unfold manyGo mrgL
    simp only [e1, e2, ne_eq, e3, e4]
    by_cases h1 : x = -idle ∨ -x ∈ o
    · rw [if_pos h1, if_pos h1]
      exact ⟨rfl, fun r h => by cases h⟩
    · rw [if_neg h1, if_neg h1]
      by_cases h2 : ¬ x = idle ∧ ¬ x ∈ o
      · rw [if_pos h2, if_pos h2]
        have hne : x ≠ 65537 ∧ x ≠ -65537 := by
          rcases hi with h | h <;> subst h
          · exact ⟨h2.1, fun e => h1 (.inl e)⟩
          · exact ⟨fun e => h1 (.inl (by omega)), h2.1⟩
        rw [phi_id hne.1 hne.2]
        exact go_same hi l (o ++ [x]) (fun y hy => hl y (List.mem_cons_of_mem _ hy)) (fun y hy => by
          rcases List.mem_append.1 hy with h | h
          · exact ho y h
          · rw [List.mem_singleton] at h; subst h; exact ⟨by omega, hx.2⟩)
      · rw [if_neg h2, if_neg h2]
        exact go_same hi l o (fun y hy => hl y (List.mem_cons_of_mem _ hy)) ho
theorem many_same {k idle : Int} {l : List Int} (hk : (k = 1 ∧ idle = 65537) ∨ (k = 2 ∧ idle = -65537)) (hl : ∀ x ∈ l, (-65537 ≤ x ∧ x ≤ 65537) ∧ x ≠ 0) : SameMean (mergedF k l idle) (manyP k (l.map phi)) := by
  have hi : idle = 65537 ∨ idle = -65537 := by omega
  have hs : manyS k = phi idle := by
    rcases hk with ⟨rfl, rfl⟩ | ⟨rfl, rfl⟩
    · rfl
    · rfl
  obtain ⟨h1, h2⟩ := go_same hi l [] hl (fun x hx => by cases hx)
  unfold mergedF manyP manyR SameMean
  rw [hs, h1]
  have hid : idle ≠ 0 := by omega
  match h : mrgL idle [] l with
  | none => exact .inl ⟨rfl, by rw [phi_neg], by show -idle ≠ 0; omega⟩
  | some [] => exact .inl ⟨rfl, rfl, hid⟩
  | some [y] =>
    have := h2 _ h y (by simp)
    have h8 : y ≠ 65537 := by omega
    have h9 : y ≠ -65537 := by omega
    exact .inl ⟨rfl, (phi_id h8 h9).symm, this.2⟩
  | some (y :: z :: r) => exact .inr ⟨(by show k ≠ 0; omega), rfl⟩
theorem ite_same {c a b : Int} (hc : (-65537 ≤ c ∧ c ≤ 65537) ∧ c ≠ 0) (ha : (-65537 ≤ a ∧ a ≤ 65537) ∧ a ≠ 0) (hb : (-65537 ≤ b ∧ b ≤ 65537) ∧ b ≠ 0) : SameMean (iteF c a b) (iteM (phi c) (phi a) (phi b)) := by
  have two : ∀ {k idle x y : Int}, ((k = 1 ∧ idle = 65537) ∨ (k = 2 ∧ idle = -65537)) → ((-65537 ≤ x ∧ x ≤ 65537) ∧ x ≠ 0) → ((-65537 ≤ y ∧ y ≤ 65537) ∧ y ≠ 0) → SameMean (mergedF k [x, y] idle) (manyP k [phi x, phi y]) := fun hk hx hy => many_same (l := [_, _]) hk (fun z hz => by
    rcases List.mem_cons.1 hz with h | h
    · subst h; exact hx
    · rw [List.mem_singleton] at h; subst h; exact hy)
  have hn : (-65537 ≤ -c ∧ -c ≤ 65537) ∧ -c ≠ 0 := by omega
  unfold iteF iteM
  simp only [phi_two ha.1, phi_one ha.1, phi_two hb.1, phi_one hb.1, phi_two hc.1, phi_one hc.1, phi_inj ha.1 hb.1]
  split
  · exact .inl ⟨rfl, rfl, ha.2⟩
  · split
    · exact .inl ⟨rfl, rfl, hb.2⟩
    · split
      · exact .inl ⟨rfl, rfl, ha.2⟩
      · split
        · exact two (.inr ⟨rfl, rfl⟩) hc hb
        · split
          · rw [← phi_neg]; exact two (.inl ⟨rfl, rfl⟩) hn hb
          · split
            · rw [← phi_neg]; exact two (.inr ⟨rfl, rfl⟩) hn ha
            · split
              · exact two (.inl ⟨rfl, rfl⟩) hc ha
              · rename_i h1 h2 _ h3 h4 h5 h6
                exact .inr ⟨(by show (4 : Int) ≠ 0; decide), by rw [phi_id h1 h2, phi_id h3 h4, phi_id h5 h6]⟩
theorem mean_same {k : Int} {l : List Int} (hf : fitsB k l.length = true) (hl : ∀ x ∈ l, (-65537 ≤ x ∧ x ≤ 65537) ∧ x ≠ 0) : SameMean (outcomeF k l) (meanM k (l.map phi)) := by
  unfold fitsB at hf
  unfold outcomeF meanM
  by_cases h1 : k = 1
  · subst h1
    rw [if_pos rfl, if_neg (by omega), if_neg (by omega)]
    exact many_same (.inl ⟨rfl, rfl⟩) hl
  · by_cases h2 : k = 2
    · subst h2
      rw [if_neg (by omega), if_pos rfl, if_neg (by omega), if_neg (by omega)]
      exact many_same (.inr ⟨rfl, rfl⟩) hl
    · rw [if_neg (by omega)] at hf
      rw [if_neg h1, if_neg h2]
      by_cases h3 : k = 3
      · rw [if_pos h3, decide_eq_true_eq] at hf
        rw [if_pos h3, if_pos h3]
        match l, hf, hl with
        | [a, b], _, hl => exact xor_same (hl a (by simp)) (hl b (by simp))
      · rw [if_neg h3] at hf
        by_cases h4 : k = 4
        · rw [if_pos h4, decide_eq_true_eq] at hf
          rw [if_neg h3, if_neg h3, if_pos h4]
          match l, hf, hl with
          | [c, a, b], _, hl => exact ite_same (hl c (by simp)) (hl a (by simp)) (hl b (by simp))
        · rw [if_neg h4] at hf; cases hf
end Go.Proofs.Yticcikelapifaaa

/- The fold of the reference's simple, against the program's. -/
namespace Go.Proofs.Yticcikelapifaaa
open Go.RowKit
set_option linter.unusedVariables false
set_option linter.unusedSimpArgs false

def updI (f : Int → Int) (k y : Int) : Int → Int := fun j => if j = k then y else f j
abbrev RefS := (Int → Int) × List Gt
/-- A turn of simple's loop over the gates. -/
def refStep (s : RefS) (g : Gt) : RefS :=
  if (meanM g.2.1 (g.2.2.map (meantF s.1))).1 = 0 then (updI s.1 g.1 g.1, s.2 ++ [(g.1, (meanM g.2.1 (g.2.2.map (meantF s.1))).2.1, (meanM g.2.1 (g.2.2.map (meantF s.1))).2.2)])
  else (updI s.1 g.1 (meanM g.2.1 (g.2.2.map (meantF s.1))).1, s.2)
/-- On the variables of S the meanings agree, and are in range. -/
def Agree (S : List Int) (f : Int → Option Int) (m : Int → Int) : Prop := ∀ v ∈ S, m v = phi (imageF f v) ∧ (-65537 ≤ imageF f v ∧ imageF f v ≤ 65537) ∧ imageF f v ≠ 0
theorem image_meant {S : List Int} {f : Int → Option Int} {m : Int → Int} (h : Agree S f m) (hS : ∀ y ∈ S, 1 ≤ y ∧ y ≤ 65536) {x : Int} (hx : varC x ∈ S) : meantF m x = phi (imageF f x) ∧ (-65537 ≤ imageF f x ∧ imageF f x ≤ 65537) ∧ imageF f x ≠ 0 := by
  have hv := hS _ hx
  obtain ⟨h1, h2, h3⟩ := h _ hx
  by_cases hn : x < 0
  · have e : varC x = -x := by unfold varC at hv ⊢; rw [if_pos hn] at hv ⊢; split at hv <;> rename_i h9 <;> (first | (rw [if_neg h9]) | omega)
    have e2 : varC (-x) = -x := by unfold varC; rw [if_neg (by omega)]
    have e3 : imageF f x = -imageF f (-x) := by
      unfold imageF
      rw [e, e2]
      cases f (-x) with
      | none => simp
      | some y => simp only; rw [if_pos hn, if_neg (by omega)]
    rw [e] at h1 h2 h3
    rw [e3]
    refine ⟨?_, by omega, by omega⟩
    unfold meantF
    rw [if_pos hn, h1, phi_neg]
  · have e : varC x = x := by unfold varC; rw [if_neg hn]
    rw [e] at h1 h2 h3
    exact ⟨by unfold meantF; rw [if_neg hn]; exact h1, h2, h3⟩
theorem ref_step {S : List Int} {t : Nat} {f : Int → Option Int} {m : Int → Int} {st : List Gt} {g : Gt} (h : Agree S f m) (hS : ∀ y ∈ S, 1 ≤ y ∧ y ≤ 65536) (hF : ∀ v, v ∉ S → f v = none) (hg : gOk S t g = true) :
    (refStep (m, st) g).2 = (simStep (f, st) g).2 ∧ Agree (S ++ [g.1]) (simStep (f, st) g).1 (refStep (m, st) g).1 ∧ (∀ v, v ∉ S ++ [g.1] → (simStep (f, st) g).1 v = none) ∧ ∀ y ∈ S ++ [g.1], 1 ≤ y ∧ y ≤ 65536 := by
  unfold gOk at hg
  simp only [Bool.and_eq_true, decide_eq_true_eq] at hg
  obtain ⟨_, hf, hl, he⟩ := hg
  unfold entB at he
  rw [decide_eq_true_eq] at he
  have hl2 := List.all_eq_true.1 hl
  have him : ∀ x ∈ g.2.2, meantF m x = phi (imageF f x) ∧ (-65537 ≤ imageF f x ∧ imageF f x ≤ 65537) ∧ imageF f x ≠ 0 := fun x hx => image_meant h hS (by simpa using hl2 x hx)
  have e1 : g.2.2.map (meantF m) = (g.2.2.map (imageF f)).map phi := by
    rw [List.map_map]
    exact List.map_congr_left fun x hx => (him x hx).1
  have hll : (g.2.2.map (imageF f)).length = g.2.2.length := by rw [List.length_map]
  have hmem : ∀ z ∈ g.2.2.map (imageF f), (-65537 ≤ z ∧ z ≤ 65537) ∧ z ≠ 0 := fun z hz => by
    obtain ⟨x, hx, rfl⟩ := List.mem_map.1 hz
    exact (him x hx).2
  have hsm := mean_same (k := g.2.1) (l := g.2.2.map (imageF f)) (by rw [hll]; exact hf) hmem
  have hok := outcome_ok (B := 65537) (k := g.2.1) (l := g.2.2.map (imageF f)) (by omega) (by rw [hll]; exact hf) (fun z hz => by unfold bdI; exact (hmem z hz).1)
  unfold refStep simStep
  simp only [e1]
  generalize outcomeF g.2.1 (g.2.2.map (imageF f)) = o at *
  generalize meanM g.2.1 ((g.2.2.map (imageF f)).map phi) = r at *
  have hr : ∀ y ∈ S ++ [g.1], 1 ≤ y ∧ y ≤ 65536 := fun y hy => by
    rcases List.mem_append.1 hy with h1 | h1
    · exact hS y h1
    · rw [List.mem_singleton] at h1; subst h1; omega
  have vg : ∀ v : Int, 1 ≤ v → varC v = v := fun v hv => by unfold varC; rw [if_neg (by omega)]
  rcases hsm with ⟨h1, h2, h3⟩ | ⟨h1, rfl⟩
  · have hrn : r.1 ≠ 0 := by rw [h2]; exact fun e => h3 (phi_zero.1 e)
    rw [if_neg hrn, if_pos h1]
    refine ⟨rfl, fun v hv => ?_, fun v hv => ?_, hr⟩
    · have hvr := hr v hv
      unfold updI imageF updM
      simp only [vg v hvr.1]
      by_cases e : v = g.1
      · rw [if_pos e, if_pos e]
        simp only
        rw [if_neg (by omega)]
        have := hok.1
        unfold bdI at this
        exact ⟨h2, this, h3⟩
      · have hvS : v ∈ S := by
          rcases List.mem_append.1 hv with h4 | h4
          · exact h4
          · rw [List.mem_singleton] at h4; exact absurd h4 e
        have := h v hvS
        unfold imageF at this
        rw [vg v hvr.1] at this
        rw [if_neg e, if_neg e]
        exact this
    · simp only [List.mem_append, List.mem_singleton, not_or] at hv
      unfold updM
      simp only
      rw [if_neg hv.2]
      exact hF v hv.1
  · rw [if_neg h1]
    simp only [if_pos trivial, true_and]
    refine ⟨ fun v hv => ?_, fun v hv => ?_, hr⟩
    · have hvr := hr v hv
      unfold updI
      by_cases e : v = g.1
      · have hfn := hF g.1 he.2.2
        rw [if_pos e]
        unfold imageF
        rw [vg v hvr.1, e, hfn]
        try simp only
        exact ⟨(phi_id (by omega) (by omega)).symm, by omega, by omega⟩
      · have hvS : v ∈ S := by
          rcases List.mem_append.1 hv with h4 | h4
          · exact h4
          · rw [List.mem_singleton] at h4; exact absurd h4 e
        try simp only
        rw [if_neg e]
        exact h v hvS
    · simp only [List.mem_append, List.mem_singleton, not_or] at hv
      exact hF v hv.1
/-- At the end the same gates stay, and the meanings agree. -/
theorem ref_run : ∀ (gs : List Gt) (S R : List Int) (t : Nat) (f : Int → Option Int) (m : Int → Int) (st : List Gt), namedL S t gs = some R → Agree S f m → (∀ y ∈ S, 1 ≤ y ∧ y ≤ 65536) → (∀ v, v ∉ S → f v = none) →
    (gs.foldl refStep (m, st)).2 = (gs.foldl simStep (f, st)).2 ∧ Agree R (gs.foldl simStep (f, st)).1 (gs.foldl refStep (m, st)).1
  | [], S, R, t, f, m, st, hn, h, _, _ => by
    unfold namedL at hn
    injection hn with hn
    subst hn
    exact ⟨rfl, h⟩
  | g :: gs, S, R, t, f, m, st, hn, h, hS, hF => by
    unfold namedL at hn
    by_cases hg : gOk S t g = true
    · rw [if_pos hg] at hn
      obtain ⟨h1, h2, h3, h4⟩ := ref_step (st := st) h hS hF hg
      have e1 : simStep (f, st) g = ((simStep (f, st) g).1, (simStep (f, st) g).2) := rfl
      have e2 : refStep (m, st) g = ((refStep (m, st) g).1, (simStep (f, st) g).2) := by rw [← h1]
      rw [List.foldl_cons, List.foldl_cons, e1, e2]
      exact ref_run gs (S ++ [g.1]) R _ _ _ _ hn h2 h4 h3
    · rw [if_neg hg] at hn; cases hn
/-- The meanings before the first gate: a variable of the prefix means itself, a fixed one true or false. -/
def fixR (S a : List Int) : Int → Int := a.foldl (fun m x => updI m (varC x) (if 0 < x then 1000000 else -1000000)) (fun v => if v ∈ S then v else 0)
theorem fix_agree {S : List Int} (hS : ∀ y ∈ S, 1 ≤ y ∧ y ≤ 65536) : ∀ (a : List Int) (f : Int → Option Int) (m : Int → Int), (∀ x ∈ a, varC x ∈ S) → Agree S f m → (∀ v, v ∉ S → f v = none) →
    Agree S (a.foldl (fun f x => updM f (varC x) (if 0 < x then 65537 else -65537)) f) (a.foldl (fun m x => updI m (varC x) (if 0 < x then 1000000 else -1000000)) m) ∧ ∀ v, v ∉ S → (a.foldl (fun f x => updM f (varC x) (if 0 < x then 65537 else -65537)) f) v = none
  | [], f, m, _, h, hF => ⟨h, hF⟩
  | x :: a, f, m, ha, h, hF => by
    rw [List.foldl_cons, List.foldl_cons]
    have hx := ha x List.mem_cons_self
    refine fix_agree hS a _ _ (fun y hy => ha y (List.mem_cons_of_mem _ hy)) (fun v hv => ?_) (fun v hv => ?_)
    · have hvr := hS v hv
      have vg : varC v = v := by unfold varC; rw [if_neg (by omega)]
      unfold updI imageF updM
      rw [vg]
      by_cases e : v = varC x
      · rw [if_pos e, if_pos e]
        by_cases h0 : 0 < x
        · rw [if_pos h0, if_pos h0]
          simp only
          rw [if_neg (by omega)]
          exact ⟨rfl, by omega, by omega⟩
        · rw [if_neg h0, if_neg h0]
          simp only
          rw [if_neg (by omega)]
          exact ⟨rfl, by omega, by omega⟩
      · rw [if_neg e, if_neg e]
        have := h v hv
        unfold imageF at this
        rw [vg] at this
        exact this
    · unfold updM
      have e : v ≠ varC x := fun e => hv (by rw [e]; exact hx)
      rw [if_neg e]
      exact hF v hv
theorem start_agree {S : List Int} (hS : ∀ y ∈ S, 1 ≤ y ∧ y ≤ 65536) : Agree S (fun _ => none) (fun v => if v ∈ S then v else 0) := fun v hv => by
  have hvr := hS v hv
  have e : imageF (fun _ => none) v = v := rfl
  rw [e]
  show (if v ∈ S then v else 0) = phi v ∧ _
  rw [if_pos hv, phi_id (by omega) (by omega)]
  exact ⟨rfl, by omega, by omega⟩
/-- The gates that stay, and the meanings, of the reference's simple are the program's. -/
theorem ref_all {S R a : List Int} {gs : List Gt} (hS : ∀ y ∈ S, 1 ≤ y ∧ y ≤ 65536) (ha : ∀ x ∈ a, varC x ∈ S) (hn : namedL S 0 gs = some R) :
    (gs.foldl refStep (fixR S a, [])).2 = (simRun (fixM a) gs).2 ∧ Agree R (simRun (fixM a) gs).1 (gs.foldl refStep (fixR S a, [])).1 := by
  obtain ⟨h1, h2⟩ := fix_agree hS a _ _ ha (start_agree hS) (fun _ _ => rfl)
  exact ref_run gs S R 0 (fixM a) (fixR S a) [] hn h1 hS h2
end Go.Proofs.Yticcikelapifaaa
